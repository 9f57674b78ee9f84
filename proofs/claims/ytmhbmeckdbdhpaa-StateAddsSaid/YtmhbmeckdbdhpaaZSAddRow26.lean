/- Texts joined for the claim's sake: CLok, Acts. -/
import Derived.Test.YtmhbmeckdbdhpaaZSAddRow25
import Derived.Test.YtmhbmeckdbdhpaaZSAddRow20
namespace Go.Proofs.Ytmhbmeckdbdhpaa
open Go.RowKit Go.Shelf

/-- What stands: the box of the laid table, the answer's, the node's, what is known so far. -/
structure LKS (w : World) (lc : Array Value) (x : Nd) (v3 : Value) (p : Ed) (es : List Ed) (W : World) : Prop where
  gr : w.grownBy W none
  bl : Blk W w.heap.size 90 lc
  br : Blk W (w.heap.size + 1) 97 (knC 0 false (0, 0) 0 [])
  bn : Blk W (w.heap.size + 1 + 1) 70 (ndCells x v3)
  bk : Blk W (w.heap.size + 1 + 1 + 1) 97 (knC x.kind x.chan p (x.next.length : Int) es)
section
variable {w W W' : World} {lc : Array Value} {x : Nd} {v3 : Value} {p : Ed} {es : List Ed}
theorem LKS.kept (h : LKS w lc x v3 p es W) (hg : W.grownBy W' none) : LKS w lc x v3 p es W' := ⟨only_trans h.gr hg, h.bl.kept hg, h.br.kept hg, h.bn.kept hg, h.bk.kept hg⟩
theorem LKS.pay (h : LKS w lc x v3 p es W) (e : Ed) : LKS w lc x v3 e es ((W.setCell ⟨w.heap.size + 1 + 1 + 1, 2, none⟩ (.int .i64 e.1)).setCell ⟨w.heap.size + 1 + 1 + 1, 3, none⟩ (.int .i64 e.2)) :=
  ⟨only_setNew (only_setNew h.gr (p := ⟨w.heap.size + 1 + 1 + 1, 2, none⟩) (by show w.heap.size ≤ w.heap.size + 1 + 1 + 1; omega) _) (p := ⟨w.heap.size + 1 + 1 + 1, 3, none⟩) (by show w.heap.size ≤ w.heap.size + 1 + 1 + 1; omega) _,
    (h.bl.far (by show w.heap.size ≠ w.heap.size + 1 + 1 + 1; omega) _).far (by show w.heap.size ≠ w.heap.size + 1 + 1 + 1; omega) _, (h.br.far (by show w.heap.size + 1 ≠ w.heap.size + 1 + 1 + 1; omega) _).far (by show w.heap.size + 1 ≠ w.heap.size + 1 + 1 + 1; omega) _,
    (h.bn.far (by show w.heap.size + 1 + 1 ≠ w.heap.size + 1 + 1 + 1; omega) _).far (by show w.heap.size + 1 + 1 ≠ w.heap.size + 1 + 1 + 1; omega) _, h.bk.putPay e⟩
theorem LKS.next (h : LKS w lc x v3 p es W) (hl : es.length < 8) (e : Ed) : LKS w lc x v3 p (es ++ [e]) ((W.setCell ⟨w.heap.size + 1 + 1 + 1, 5 + es.length * 2, none⟩ (.int .i64 e.1)).setCell ⟨w.heap.size + 1 + 1 + 1, 5 + es.length * 2 + 1, none⟩ (.int .i64 e.2)) :=
  ⟨only_setNew (only_setNew h.gr (p := ⟨w.heap.size + 1 + 1 + 1, 5 + es.length * 2, none⟩) (by show w.heap.size ≤ w.heap.size + 1 + 1 + 1; omega) _) (p := ⟨w.heap.size + 1 + 1 + 1, 5 + es.length * 2 + 1, none⟩) (by show w.heap.size ≤ w.heap.size + 1 + 1 + 1; omega) _,
    (h.bl.far (by show w.heap.size ≠ w.heap.size + 1 + 1 + 1; omega) _).far (by show w.heap.size ≠ w.heap.size + 1 + 1 + 1; omega) _, (h.br.far (by show w.heap.size + 1 ≠ w.heap.size + 1 + 1 + 1; omega) _).far (by show w.heap.size + 1 ≠ w.heap.size + 1 + 1 + 1; omega) _,
    (h.bn.far (by show w.heap.size + 1 + 1 ≠ w.heap.size + 1 + 1 + 1; omega) _).far (by show w.heap.size + 1 + 1 ≠ w.heap.size + 1 + 1 + 1; omega) _, h.bk.putNext hl e⟩
end

set_option maxRecDepth 100000 in
set_option maxHeartbeats 2000000 in
theorem clook_any {L : List Nd} (hX : TX L) {os : List Nat} (hos : os.length = L.length) (hroot : ∀ i, i < L.length → os.getD (rootL L i) 0 = os.getD i 0) {a : Nat} {x : Nd} (hx : L[a]? = some x) (h5 : x.kind ≠ 5)
    {lv ov : Value} {w : World} (hV : LaidV w lv L) (hO : Ints w ov (os.map Int.ofNat)) :
    Calls Try.prog 51 #[lv, ov, .int .i64 (a : Int)] w fun en w' => en = .returned (knV (knN L os a)) ∧ w.grownBy w' none := by
  have HK : Hid (∀ e, e ∈ allE x → ∀ W, w.grownBy W none → Calls Try.prog 68 #[lv, ov, .int .i64 (a : Int), edV e] W fun en w' => en = .returned (edV (linkL L os x e)) ∧ W.grownBy w' none) :=
    Lib.hid fun e he W hg => clink_any hX hos hroot hx h5 he (hV.keep (.grown hg)) (hO.keep (.grown hg))
  obtain ⟨v2, vt, vp, rfl, hT, hR, hP⟩ := hV
  have hlen := hX.len
  have hal : a < L.length := (List.getElem?_eq_some_iff.1 hx).1
  have gx := (hX.tw.good x (List.mem_of_getElem? hx)).2.2
  have HN : Hid (knN L os a = ⟨x.kind, 0, x.chan, if x.chan then linkL L os x x.pay else (0, 0), x.next.map (linkL L os x)⟩) := Lib.hid (by unfold knN; rw [hx])
  obtain ⟨A2, k2, rfl, _⟩ := id hT
  obtain ⟨At, kt, rfl, _⟩ := id hR
  obtain ⟨Ap, kp, rfl, _⟩ := id hP
  obtain ⟨Ao, ko, rfl, _⟩ := id hO
  obtain ⟨b2, o2, A3, k3, rfl, hE, m0, m1, m2, m3, m4, m5⟩ := cls_at hT hx
  have HE := Lib.hid hE
  have e1 : (List.map Int.ofNat (rootsL L)).length = L.length := by rw [List.length_map, roots_len]
  have e2 : (List.map (prioL L) (List.range L.length)).length = L.length := by rw [List.length_map, List.length_range]
  have e3 : (List.map Int.ofNat os).length = L.length := by rw [List.length_map, hos]
  rw [e1, e2, e3] at HK
  rw [e1, e2, e3]
  have hlI : (L.length : Int) ≤ 128 := by omega
  have ha0 : (0 : Int) ≤ (a : Int) := by omega
  have ha1 : (a : Int) < (L.length : Int) := by omega
  have hb2 : b2 < w.heap.size := cell_lt m0
  have hnI : (x.next.length : Int) ≤ 8 := by omega
  clear hT hR hP hO e1 e2 e3 hX hos hroot hE
  go_enter Try.func51, Try.ntmps51
  go_upto_region 2 with fail
  generalize hW2 : World.alloc _ _ = W2
  have hg2 : w.grownBy W2 none := by rw [← hW2]; exact only_alloc (only_alloc (only_alloc (only_refl _ _) _) _) _
  have hbl : Blk W2 w.heap.size 90 #[.slice (some ⟨b2, o2, none⟩) L.length k2, .slice At L.length kt, .slice Ap L.length kp] := by rw [← hW2]; exact ((Blk.new w _ _).alloc _).alloc _
  have hbr : Blk W2 (w.heap.size + 1) 97 (knC 0 false (0, 0) 0 []) := by rw [← hW2]; exact (blk_at (by simp) _ _ : Blk ((w.alloc _).alloc _) (w.heap.size + 1) _ _).alloc _
  have hbn : Blk W2 (w.heap.size + 1 + 1) 70 (ndCells x (.slice A3 x.next.length k3)) := by rw [← hW2]; exact blk_at (by simp) _ _
  have hz2 : W2.heap.size = w.heap.size + 1 + 1 + 1 := by rw [← hW2]; simp
  have n0 := hbn.cell 0
  have n2 := hbn.cell 2
  have n5 := hbn.cell 5
  clear hW2 m0 m1 m2 m3 m4 m5
  refine wp_region_lit ?_
  refine wpList_split 9 _ _ rfl rfl fun Q2 hQ2 => ?_
  have HQ2 := Lib.hid hQ2
  clear hQ2
  go_wp2_with fail
  refine HQ2.out _ _ ?_
  clear HQ2
  refine wpList_store_row rfl 97 (.tmp 8) (.tmp 23) rfl (w.heap.size + 1 + 1 + 1) (knC x.kind x.chan (0, 0) (x.next.length : Int) []) rfl rfl 97 (knC 0 false (0, 0) 0 []) (by rw [← hz2]; exact Blk.new W2 _ _) known_size rfl (knC_one _ _ _ _ _) ?_
  simp only [Act.put]
  generalize hW3 : World.setRow _ _ _ = W3
  have hs3 : LKS w #[.slice (some ⟨b2, o2, none⟩) L.length k2, .slice At L.length kt, .slice Ap L.length kp] x (.slice A3 x.next.length k3) (0, 0) [] W3 := by
    rw [← hW3]
    have hg3 : W2.grownBy ((W2.alloc (.cells (knC 0 false (0, 0) 0 []) 97)).setRow (w.heap.size + 1 + 1 + 1) (knC x.kind x.chan (0, 0) (x.next.length : Int) [])) none := only_setRow (only_alloc (only_refl _ _) _) (by omega) _
    exact ⟨only_trans hg2 hg3, hbl.kept hg3, hbr.kept hg3, hbn.kept hg3, by rw [← hz2]; exact (Blk.new W2 _ _).row_ _⟩
  have HS := Lib.hid hs3
  have n2 := hs3.bn.cell 2
  clear hW3 hs3 hg2 hbl hbr hbn hz2 n0 n2 n5
  have n2 := HS.out.bn.cell 2
  go_upto_if 25 with fail
  go_cut [15, 19, 23] from 24 to 33 (fun _ _ _ wx => ∃ p, LKS w #[.slice (some ⟨b2, o2, none⟩) L.length k2, .slice At L.length kt, .slice Ap L.length kp] x (.slice A3 x.next.length k3) p [] wx ∧ p = (if x.chan then linkL L os x x.pay else (0, 0)))
  case first =>
    have l0 := HS.out.bl.cell 0
    have l1 := HS.out.bl.cell 1
    have l2 := HS.out.bl.cell 2
    have n3 := HS.out.bn.cell 3
    have n4 := HS.out.bn.cell 4
    have HPE : Hid (x.chan = true → x.pay ∈ allE x) := Lib.hid fun hch => by unfold allE; rw [hch]; simp
    obtain ⟨pl, hpl⟩ : ∃ pl, linkL L os x x.pay = pl := ⟨_, rfl⟩
    have HPL := Lib.hid hpl
    clear hpl
    go_wp2_with (go_at_call 68; go_must (have hch : x.chan = true := (by assumption); refine (HK.out x.pay (HPE.out hch) _ HS.out.gr).mono ?_; rw [HPL.out]; rintro e W4 ⟨rfl, hg4⟩; have HS4 := Lib.hid (HS.out.kept hg4); have c2 := HS4.out.bk.cell 2; have c3 := HS4.out.bk.cell 3; have f2 := HS4.out.bk.frozen 2; have f3 := HS4.out.bk.frozen 3; clear hg4))
    · go_meet
      exact ⟨pl, HS4.out.pay pl, by rw [if_pos (by assumption), HPL.out]⟩
    · have hch' : x.chan = false := by assumption
      go_meet
      exact ⟨(0, 0), HS.out, by rw [if_neg (by rw [hch']; decide)]⟩
  case rest =>
    obtain ⟨p, hs, hp⟩ := hcut
    have HP := Lib.hid hp
    have HS := Lib.hid hs
    have n5 := hs.bn.cell 5
    clear hp hs
    go_wp2_with fail
    clear n5
    go_loopw [36] (fun i W => ∃ k : Nat, k ≤ x.next.length ∧ i = .int .i64 (k : Int) ∧ LKS w #[.slice (some ⟨b2, o2, none⟩) L.length k2, .slice At L.length kt, .slice Ap L.length kp] x (.slice A3 x.next.length k3) p ((x.next.take k).map (linkL L os x)) W) (fun i _ => x.next.length - (intOf i).toNat)
    case atStart => exact ⟨0, Nat.zero_le _, rfl, HS.out⟩
    case round =>
      obtain ⟨k, hk, rfl, hs⟩ := hrel
      have HSk := Lib.hid hs
      clear hs
      by_cases hlt : k < x.next.length
      · obtain ⟨e, he⟩ : ∃ e, x.next[k]? = some e := ⟨_, List.getElem?_eq_getElem hlt⟩
        obtain ⟨A5, c5, hA5, _, hcl⟩ := HE.out
        obtain ⟨b5, o5, hb5, hce⟩ := hcl (by intro e0; rw [e0] at he; simp at he)
        obtain ⟨rfl, rfl⟩ : A3 = A5 ∧ k3 = c5 := by simpa using hA5
        subst hb5
        obtain ⟨w0, w1⟩ := hce k e he
        have e0 := Keeps.grown HSk.out.gr _ _ w0
        have e1 := Keeps.grown HSk.out.gr _ _ w1
        have hb5l : b5 < wr.heap.size := cell_lt e0
        have HEA : Hid (e ∈ allE x) := Lib.hid (by unfold allE; exact List.mem_append_left _ (List.mem_of_getElem? he))
        have HTK : Hid ((x.next.take (k + 1)).map (linkL L os x) = (x.next.take k).map (linkL L os x) ++ [linkL L os x e]) := Lib.hid (by rw [List.take_add_one, he, List.map_append]; rfl)
        have HLN : Hid (((x.next.take k).map (linkL L os x)).length = k) := Lib.hid (by rw [List.length_map, List.length_take]; omega)
        have hkI : (k : Int) < (x.next.length : Int) := by omega
        have hk0 : (0 : Int) ≤ (k : Int) := by omega
        clear hce hcl hA5 he w0 w1
        go_upto_region 8 with fail
        generalize hW5 : World.alloc _ _ = W5
        have hg5 : wr.grownBy W5 none := by rw [← hW5]; exact only_alloc (only_refl _ _) _
        have hbe : Blk W5 wr.heap.size 67 #[.int .i64 e.1, .int .i64 e.2] := by rw [← hW5]; exact Blk.new wr _ _
        have HS5 := Lib.hid (HSk.out.kept hg5)
        have l0 := HS5.out.bl.cell 0
        have l1 := HS5.out.bl.cell 1
        have l2 := HS5.out.bl.cell 2
        have q0 := hbe.cell 0
        have q1 := hbe.cell 1
        have hk8 : (k : Int) < 8 := by omega
        clear hW5 hg5 hbe e0 e1 hb5l
        obtain ⟨pl, hpl⟩ : ∃ pl, linkL L os x e = pl := ⟨_, rfl⟩
        rw [hpl] at HTK
        have HPL := Lib.hid hpl
        have HK8 := Lib.hid (show k < 8 by omega)
        clear hpl
        go_wp2_with (go_at_call 68; go_must (refine (HK.out e HEA.out _ HS5.out.gr).mono ?_; rw [HPL.out]; rintro e' W6 ⟨rfl, hg6⟩; have HS6 := Lib.hid (HS5.out.kept hg6); have c2 := (HS6.out.bk.atNext HK8.out).1; have c3 := (HS6.out.bk.atNext HK8.out).2; have f2 := HS6.out.bk.frozen (5 + k * 2); have f3 := HS6.out.bk.frozen (5 + k * 2 + 1); clear hg6 l0 l1 l2 q0 q1))
        go_roundw
        case rel =>
          refine ⟨k + 1, by omega, by go_num, ?_⟩
          have h6 := HS6.out.next (by rw [HLN.out]; exact HK8.out) pl
          rw [HLN.out] at h6
          rw [HTK.out]
          exact h6
        case measure => simp [intOf]; omega
      · have hkI : (x.next.length : Int) ≤ (k : Int) := by omega
        have HKE : Hid (k = x.next.length) := Lib.hid (by omega)
        go_upto_region 10 with fail
        have hs := HSk.out
        rw [HKE.out, List.take_length] at hs
        refine wp_region_lit ?_
        refine wpList_load_known rfl (.tmp 8) rfl rfl hs.bk rfl ?_
        refine wpList_store_row rfl 97 (.tmp 6) (.tmp 50) rfl (w.heap.size + 1) (knC x.kind x.chan p (x.next.length : Int) (x.next.map (linkL L os x))) rfl rfl 97 (knC 0 false (0, 0) 0 []) hs.br known_size rfl (knC_one _ _ _ _ _) ?_
        simp only [Act.put]
        have HBR := Lib.hid (hs.br.row_ (knC x.kind x.chan p (x.next.length : Int) (x.next.map (linkL L os x))))
        have HGR := Lib.hid (only_setRow hs.gr (Nat.le_succ w.heap.size) (knC x.kind x.chan p (x.next.length : Int) (x.next.map (linkL L os x))))
        clear hs
        generalize World.setRow _ _ _ = W9 at *
        go_wp2_with fail
        refine bodyPost_ret (known_results rfl HBR.out rfl) rfl ?_
        refine ⟨?_, HGR.out⟩
        rw [HN.out]
        show Ending.returned (.agg (knC _ _ _ _ _)) = .returned (.agg (knC _ _ _ _ _))
        dsimp only
        rw [HP.out, List.length_map]
end Go.Proofs.Ytmhbmeckdbdhpaa

namespace Go.Proofs.Ytmhbmeckdbdhpaa
open Go.RowKit

/-- What an operation asks for is there, as far as it is listed. -/
def depsV (vals : List (Tmp × Value)) (ops : Array Oper) (o : Oper) : Bool := o.op.operands.toList.all fun
  | .tmp t => (vals.lookup t).isNone || (ops.toList.all fun oj => oj.dst != some t) || o.after.toList.any fun e => Region.binds .any e && ((ops[e.on]?).bind (·.dst) == some t)
  | _ => true
def regOkV (vals : List (Tmp × Value)) (ops : Array Oper) : Bool := ops.toList.zipIdx.all fun (o, i) => o.guard.isNone && (o.after.toList.all fun e => !Region.binds .any e || decide (e.on < i)) && depsV vals ops o
theorem regOkV_at {vals : List (Tmp × Value)} {ops : Array Oper} (h : regOkV vals ops = true) {i : Nat} {o : Oper} (hi : ops[i]? = some o) : o.guard = none ∧ (∀ e ∈ o.after, Region.binds .any e = true → e.on < i) ∧ depsV vals ops o = true := by
  unfold regOkV at h
  rw [List.all_eq_true] at h
  have h1 := h (o, i) (List.mem_iff_getElem?.2 ⟨i, by rw [List.getElem?_zipIdx, Array.getElem?_toList, hi]; simp⟩)
  simp only [Bool.and_eq_true, List.all_eq_true, Bool.or_eq_true, Bool.not_eq_true', decide_eq_true_eq, Option.isNone_iff_eq_none] at h1
  refine ⟨h1.1.1, fun e he hb => ?_, h1.2⟩
  rcases h1.1.2 e (Array.mem_toList_iff.2 he) with h2 | h2
  · rw [hb] at h2; cases h2
  · exact h2
theorem all_listedV {vals : List (Tmp × Value)} {ops : Array Oper} (hok : regOkV vals ops = true) {listed : Array Bool} (hs : listed.size = ops.size) (hr : Region.ready .any ops listed = []) : ∀ i, i < ops.size → listed.getD i false = true := by
  intro i
  induction i using Nat.strongRecOn with
  | _ i ih =>
    intro hi
    cases hl : listed.getD i false with
    | true => rfl
    | false =>
      have ho : ops[i]? = some ops[i] := Array.getElem?_eq_getElem hi
      have hm : i ∈ Region.ready .any ops listed := mem_ready.2 ⟨by simpa [hs, hi] using hl, ops[i], ho, fun e he hb => by
        have := (regOkV_at hok ho).2.1 e he hb
        exact ih e.on this (by omega)⟩
      rw [hr] at hm; cases hm
def doneD (d : Nat → Bool) (i : Nat) : Nat → Bool := fun j => if j = i then true else d j

theorem region_acts {P : Program} {ops : Array Oper} {Q : Exit → Act → World → Prop} {id : Nat} {a : Act} {w : World} (hm : P.follows .mixedOrders = true) (vals : List (Tmp × Value)) (hok : regOkV vals ops = true) (ds : List Tmp) (hds : dstsOf ops = ds) (hlt : (ds.all fun t => decide (t < a.tmps.size)) = true) (hdn : ds.Nodup)
    (h0 : ∀ p ∈ vals, p.1 ∉ ds → a.tmps.getD p.1 undef = p.2)
    (acts : List Nat) (T : (Nat → Bool) → (Tmp → Value) → World → Prop) (hT : ∀ d f g W, T d f W → (∀ t, vals.lookup t = none → f t = g t) → T d g W) (hd : ∀ d i f W, i ∉ acts → T d f W → T (doneD d i) f W)
    (hreads : ∀ (i : Nat) (o : Oper), ops[i]? = some o → i ∉ acts → ∃ t c, o.dst = some t ∧ vals.lookup t = some c ∧ ∀ d (b : Act) W, d i = false → (∀ k o' e, d k = true → ops[k]? = some o' → e ∈ o'.after → Region.binds .any e = true → d e.on = true) → T d (fun t => b.tmps.getD t undef) W → (∀ t v, Operand.tmp t ∈ o.op.operands → vals.lookup t = some v → b.eval (.tmp t) = v) → (execOp b.eval o).run P W = .ok (.value c) W)
    (hsteps : ∀ (i : Nat) (o : Oper), ops[i]? = some o → i ∈ acts → (∀ t, o.dst = some t → vals.lookup t = none) ∧ ∀ d (b : Act) W, b.tmps.size = a.tmps.size → d i = false → (∀ e ∈ o.after, Region.binds .any e = true → d e.on = true) → (∀ k o' e, d k = true → ops[k]? = some o' → e ∈ o'.after → Region.binds .any e = true → d e.on = true) → T d (fun t => b.tmps.getD t undef) W → (∀ t v, Operand.tmp t ∈ o.op.operands → vals.lookup t = some v → b.eval (.tmp t) = v) →
      o.wp P b W (fun b' W' => ∃ x, b' = b.put o.dst x ∧ T (doneD d i) (fun t => (b.put o.dst x).tmps.getD t undef) W') Q)
    (hT0 : T (fun _ => false) (fun t => a.tmps.getD t undef) w.drew)
    (hQ : ∀ (d : Nat → Bool) (vs : Tmp → Value) (W : World), (∀ i, i < ops.size → d i = true) → (∀ t v, vals.lookup t = some v → t ∈ ds → vs t = v) → T d vs W →
      Q .normal { a with tmps := ds.foldl (fun (ts : Array Value) t => ts.setIfInBounds t (vs t)) a.tmps } W) :
    (Code.region id ops true).wp P Q a w := by
  subst hds
  have hu : ∀ (i j : Nat) (oi oj : Oper) (t : Tmp), ops[i]? = some oi → ops[j]? = some oj → oi.dst = some t → oj.dst = some t → i = j := fun i j oi oj t hi hj ei ej =>
    nodup_at hdn (by rw [Array.getElem?_toList]; exact hi) (by rw [Array.getElem?_toList]; exact hj) ei ej
  have hdl : ∀ t ∈ dstsOf ops, t < a.tmps.size := fun t ht => by simpa using List.all_eq_true.1 hlt t ht
  refine wp_region_any hm (wpAny_inv (fun listed b W => b.defers = a.defers ∧ b.tmps.size = a.tmps.size ∧ (∀ t, t ∉ dstsOf ops → b.tmps[t]? = a.tmps[t]?) ∧
    (∀ (i : Nat) (o : Oper) (t : Tmp) (c : Value), listed.getD i false = true → ops[i]? = some o → o.dst = some t → vals.lookup t = some c → b.tmps.getD t undef = c) ∧
    (∀ (k : Nat) (o : Oper) (e : Edge), listed.getD k false = true → ops[k]? = some o → e ∈ o.after → Region.binds .any e = true → listed.getD e.on false = true) ∧
    T (fun i => listed.getD i false) (fun t => b.tmps.getD t undef) W) ?_ ?_ ops.size _ _ _ (by simp) (by
      have := List.countP_le_length (p := (! ·)) (l := (Array.replicate ops.size false).toList)
      simpa using this) ?_)
  · rintro listed b W hs ⟨i2, i3, i4, i5, i7, hTj⟩ i hi
    obtain ⟨hni, o, ho, hall⟩ := mem_ready.1 hi
    have hil : i < ops.size := (Array.getElem?_eq_some_iff.1 ho).1
    have hni' : listed.getD i false = false := by
      have hl : i < listed.size := by omega
      simpa [hl] using hni
    obtain ⟨g1, g2, g3⟩ := regOkV_at hok ho
    have henv : ∀ t v, Operand.tmp t ∈ o.op.operands → vals.lookup t = some v → b.eval (.tmp t) = v := fun t v ht hv => by
      unfold depsV at g3
      rw [List.all_eq_true] at g3
      have h1 := g3 (.tmp t) (Array.mem_toList_iff.2 ht)
      simp only [hv, Option.isNone_some, Bool.false_or, Bool.or_eq_true, List.all_eq_true, List.any_eq_true, Bool.and_eq_true, bne_iff_ne, ne_eq, beq_iff_eq] at h1
      rcases h1 with h1 | ⟨e, he, hb, hx⟩
      · have h4 : t ∉ dstsOf ops := fun hm => by
          obtain ⟨i, oi, hi, e⟩ := mem_dsts.1 hm
          exact h1 oi (List.mem_iff_getElem?.2 ⟨i, by rw [Array.getElem?_toList]; exact hi⟩) e
        have h5 := i4 t h4
        show b.tmps.getD t undef = v
        rw [Array.getD_eq_getD_getElem?, h5, ← Array.getD_eq_getD_getElem?]
        exact h0 (t, v) (lookup_mem hv) h4
      · obtain ⟨oj, hoj, e1⟩ := Option.bind_eq_some_iff.1 hx
        exact i5 e.on oj t v (hall e (Array.mem_toList_iff.1 he) hb) hoj e1 hv
    have hset : ∀ j, i ≠ j → (listed.setIfInBounds i true).getD j false = listed.getD j false := fun j hij => getD_set_ne false hij
    have hseti : (listed.setIfInBounds i true).getD i false = true := getD_set_at (by omega)
    have hdone : (fun j => (listed.setIfInBounds i true).getD j false) = doneD (fun j => listed.getD j false) i := funext fun j => by
      unfold doneD
      by_cases e : j = i
      · rw [if_pos e, e]; exact hseti
      · rw [if_neg e]; exact hset j fun e' => e e'.symm
    unfold wpOp
    simp only [ho]
    rw [if_pos (by simp [Region.wanted, g1])]
    have other : ∀ (x : Value) (t' : Tmp), o.dst ≠ some t' → (b.put o.dst x).tmps[t']? = b.tmps[t']? := fun x t' hne => by
      cases hd : o.dst with
      | none => rfl
      | some t =>
        rw [hd] at hne
        simp only [Act.put]
        rw [Array.getElem?_setIfInBounds_ne (fun e => hne (by rw [e]))]
    have otherD : ∀ (x : Value) (t' : Tmp), o.dst ≠ some t' → (b.put o.dst x).tmps.getD t' undef = b.tmps.getD t' undef := fun x t' hne => by
      rw [Array.getD_eq_getD_getElem?, other x t' hne, ← Array.getD_eq_getD_getElem?]
    have basic : ∀ x : Value, (b.put o.dst x).defers = a.defers ∧ (b.put o.dst x).tmps.size = a.tmps.size ∧ (∀ t, t ∉ dstsOf ops → (b.put o.dst x).tmps[t]? = a.tmps[t]?) := fun x => by
      refine ⟨?_, ?_, fun t ht => ?_⟩
      · cases o.dst <;> exact i2
      · cases o.dst <;> simp [Act.put, i3]
      · rw [other x t (fun e => ht (mem_dsts.2 ⟨i, o, ho, e⟩))]
        exact i4 t ht
    have closed : ∀ (k : Nat) (ok : Oper) (e : Edge), (listed.setIfInBounds i true).getD k false = true → ops[k]? = some ok → e ∈ ok.after → Region.binds .any e = true → (listed.setIfInBounds i true).getD e.on false = true := fun k ok e hl hok he hb => by
      by_cases hie : i = e.on
      · rw [← hie]; exact hseti
      · rw [hset _ hie]
        by_cases hik : i = k
        · subst hik
          rw [ho] at hok
          obtain rfl := Option.some.inj hok
          exact hall e he hb
        · rw [hset _ hik] at hl
          exact i7 k ok e hl hok he hb
    by_cases hmem : i ∈ acts
    · obtain ⟨hv, hstep⟩ := hsteps i o ho hmem
      refine .inl (Oper.wp_mono ?_ (hstep _ b W i3 hni' hall i7 hTj henv))
      rintro b' W' ⟨x, rfl, hT'⟩
      refine ⟨(basic x).1, (basic x).2.1, (basic x).2.2, fun m om t' c' hl hom e1 e2 => ?_, closed, by rw [hdone]; exact hT'⟩
      have hne : o.dst ≠ some t' := fun e => by rw [hv t' e] at e2; cases e2
      have him : i ≠ m := fun e => by subst e; rw [ho] at hom; cases hom; exact hne e1
      rw [hset m him] at hl
      rw [otherD x t' hne]
      exact i5 m om t' c' hl hom e1 e2
    · obtain ⟨t, c, b1, b2, b3⟩ := hreads i o ho hmem
      refine .inl ?_
      unfold Oper.wp
      rw [b3 _ b W hni' i7 hTj henv, Oper.upon_value]
      refine ⟨(basic c).1, (basic c).2.1, (basic c).2.2, fun m om t' c' hl hom e1 e2 => ?_, closed, by
        rw [hdone]
        refine hd _ _ _ _ hmem (hT _ _ _ _ hTj fun t' ht' => ?_)
        have hne : o.dst ≠ some t' := fun e => by
          rw [b1] at e
          obtain rfl := Option.some.inj e
          rw [b2] at ht'
          cases ht'
        exact (otherD c t' hne).symm⟩
      by_cases him : i = m
      · subst him
        rw [ho] at hom
        obtain rfl := Option.some.inj hom
        rw [b1] at e1
        obtain rfl := Option.some.inj e1
        rw [b2] at e2
        obtain rfl := Option.some.inj e2
        have : t < b.tmps.size := by rw [i3]; exact hdl t (mem_dsts.2 ⟨i, o, ho, b1⟩)
        rw [b1]
        simp [Act.put, this]
      · have hne : o.dst ≠ some t' := fun e => him (hu i m o om t' ho hom e e1)
        rw [hset m him] at hl
        rw [otherD c t' hne]
        exact i5 m om t' c' hl hom e1 e2
  · rintro listed b W hs ⟨i2, i3, i4, i5, i7, hTj⟩ hr
    have hl := all_listedV hok hs hr
    have hlo : ∀ {i o}, ops[i]? = some o → listed.getD i false = true := fun h => hl _ (Array.getElem?_eq_some_iff.1 h).1
    have hb : b = { a with tmps := (dstsOf ops).foldl (fun (ts : Array Value) t => ts.setIfInBounds t (b.tmps.getD t undef)) a.tmps } := by
      obtain ⟨bt, bd⟩ := b
      obtain ⟨at_, ad⟩ := a
      simp only [Act.mk.injEq]
      refine ⟨?_, i2⟩
      apply Array.ext_getElem?
      intro t
      dsimp only at i3 i4
      rw [foldSet]
      by_cases h1 : t ∈ dstsOf ops
      · by_cases h2 : t < at_.size
        · have : t < bt.size := by omega
          simp [h1, h2, this]
        · simp [h2, i3]
      · simp only [h1, false_and, if_false]
        exact i4 t h1
    rw [hb]
    refine hQ (fun i => listed.getD i false) (fun t => b.tmps.getD t undef) W hl (fun t v hv ht => ?_) hTj
    obtain ⟨i, o, ho, e⟩ := mem_dsts.1 ht
    exact i5 i o t v (hlo ho) ho e hv
  · have hno : ∀ j, (Array.replicate ops.size false).getD j false = false := fun j => by
      simp only [Array.getD_eq_getD_getElem?, Array.getElem?_replicate]
      split <;> rfl
    refine ⟨rfl, rfl, fun _ _ => rfl, fun i o t d hl => ?_, fun k o e hl => ?_, ?_⟩
    · rw [hno] at hl; cases hl
    · rw [hno] at hl; cases hl
    · have e : (fun i => (Array.replicate ops.size false).getD i false) = fun _ => false := funext hno
      rw [e]; exact hT0
end Go.Proofs.Ytmhbmeckdbdhpaa

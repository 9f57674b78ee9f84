/- Texts joined for the claim's sake: CRef, CPla, CUnl. -/
import Derived.Test.YtepjkoegbehojaaZMgAJ
import Derived.Test.YtepjkoegbehojaaZMgAH
import Derived.Deep.CutBlock
import Derived.Deep.CutRange
import Derived.Deep.QuietTactic
import Derived.BigQuiet
import Derived.Test.YtepjkoegbehojaaZMgAG
import Derived.Test.YtepjkoegbehojaaZMgAC
/- The document's own answers of layer 7 about a table of classes: along, Type, Next, Pay. -/
namespace Go.Proofs.Ytepjkoegbehojaa
open Go.RowKit Go.Shelf

theorem only_drewN_C {w w' : World} (h : w.grownBy w' none) : ∀ n, w.grownBy (w'.drewN n) none
  | 0 => h
  | n + 1 => only_drew (only_drewN_C h n)
section
variable {W : World} {vc vo vp : Value} {T : ClsT}
/-- A class in memory. -/
theorem cls_at {A : Option Addr} {c : Nat} {xs : List Nd} (h : Tbl W (.slice A xs.length c) xs) {k : Nat} {x : Nd} (hx : xs[k]? = some x) : ∃ b off A2 c2, A = some ⟨b, off, none⟩ ∧ Edges W (.slice A2 x.next.length c2) x.next ∧
    W.cell? ⟨b, off + k * 6, none⟩ = some (.int .i64 x.kind) ∧ W.cell? ⟨b, off + k * 6 + 1, none⟩ = some (.int .i64 x.prio) ∧ W.cell? ⟨b, off + k * 6 + 2, none⟩ = some (.bool x.chan) ∧
    W.cell? ⟨b, off + k * 6 + 3, none⟩ = some (.int .i64 x.pay.1) ∧ W.cell? ⟨b, off + k * 6 + 4, none⟩ = some (.int .i64 x.pay.2) ∧ W.cell? ⟨b, off + k * 6 + 5, none⟩ = some (.slice A2 x.next.length c2) := by
  obtain ⟨A', c', hA, hcl⟩ := h
  have hk := (List.getElem?_eq_some_iff.1 hx).1
  obtain ⟨b, off, hb, hcl2⟩ := hcl (by intro e; rw [e] at hk; simp at hk)
  simp only [Value.slice.injEq, true_and] at hA
  obtain ⟨v, hE, m⟩ := hcl2 k x hx
  obtain ⟨A2, c2, rfl, _⟩ := id hE
  exact ⟨b, off, A2, c2, hA.1.trans hb, hE, m⟩
theorem ints_at {A : Option Addr} {c : Nat} {zs : List Int} (h : Ints W (.slice A zs.length c) zs) {k : Nat} {z : Int} (hz : zs[k]? = some z) : ∃ b off, A = some ⟨b, off, none⟩ ∧ W.cell? ⟨b, off + k, none⟩ = some (.int .i64 z) := by
  obtain ⟨A', c', hA, _, hcl⟩ := h
  have hk := (List.getElem?_eq_some_iff.1 hz).1
  obtain ⟨b, off, hb, hcl2⟩ := hcl (by intro e; rw [e] at hk; simp at hk)
  simp only [Value.slice.injEq, true_and] at hA
  exact ⟨b, off, hA.1.trans hb, hcl2 k z hz⟩
theorem kindC_at {c : Nat} {y : Nd} (hy : T.cls[c]? = some y) : kindC T (c : Int) = y.kind := by unfold kindC; rw [nodeAt_nat, hy]
end

set_option maxRecDepth 100000 in
set_option maxHeartbeats 2000000 in
theorem ralong_any (T : ClsT) (tv : Value) (k : Ed) (prio : Int) (w : World) (hT : TabV w tv T) (h0 : 0 ≤ k.1) (h1 : k.1 < (T.cls.length : Int)) (hs : T.cls.length ≤ 1000000) :
    Calls Try.prog 39 #[tv, edV k, .int .i64 prio] w fun e w' => e = .returned (pairV (alongA T k prio)) ∧ w.grownBy w' none := by
  obtain ⟨vc, vo, vp, rfl, hC, hO, hP⟩ := hT
  obtain ⟨c, j⟩ := k
  dsimp only at h0 h1
  obtain ⟨c, rfl⟩ : ∃ n : Nat, c = (n : Int) := ⟨c.toNat, by omega⟩
  obtain ⟨A, cap, rfl, _⟩ := id hC
  obtain ⟨y, hy⟩ : ∃ y, T.cls[c]? = some y := ⟨_, List.getElem?_eq_getElem (by omega)⟩
  obtain ⟨b, off, A2, c2, rfl, _, m0, _⟩ := cls_at hC hy
  have hk := kindC_at hy
  have hb : b < w.heap.size := cell_lt m0
  have hlI : (T.cls.length : Int) ≤ 1000000 := by omega
  obtain ⟨A3, c3, rfl, _⟩ := id hO
  obtain ⟨A4, c4, rfl, _⟩ := id hP
  unfold alongA
  dsimp only
  rw [hk]
  by_cases h5 : y.kind = 0
  · rw [if_pos h5]
    rw [h5] at m0
    clear hC hO hP hk h5 hy
    go_enter Try.func39, Try.ntmps39
    go_wp2_with fail
    go_ret2
    exact ⟨rfl, only_alloc (only_alloc (only_refl _ _) _) _⟩
  · rw [if_neg h5]
    have h5b : (y.kind == 0) = false := by simp [h5]
    have h5d : decide (y.kind = 0) = false := decide_eq_false h5
    clear hC hO hP hk hy
    go_enter Try.func39, Try.ntmps39
    go_upto_region 3 with fail
    go_quiet (fail)
    go_wp2_with fail
    go_ret2
    exact ⟨rfl, only_drewN_C (only_alloc (only_alloc (only_refl _ _) _) _) _⟩

set_option maxRecDepth 100000 in
set_option maxHeartbeats 2000000 in
theorem rtype_any (T : ClsT) (hW : Wf T) (tv : Value) (x : Ed) (w : World) (hT : TabV w tv T) (b0 : -9223372036854775808 ≤ x.1) (b1 : x.1 ≤ 9223372036854775807) :
    Calls Try.prog 14 #[tv, edV x] w fun e w' => e = .returned (pairV (typeA T x)) ∧ w.grownBy w' none := by
  obtain ⟨vc, vo, vp, rfl, hC, hO, hP⟩ := hT
  obtain ⟨n, o⟩ := x
  dsimp only at b0 b1
  obtain ⟨A, cap, rfl, _⟩ := id hC
  obtain ⟨A3, c3, rfl, _⟩ := id hO
  obtain ⟨A4, c4, rfl, _⟩ := id hP
  have hs := hW.small
  have hlI : (T.cls.length : Int) ≤ 1000000 := by omega
  have hoI : (T.of_.length : Int) ≤ 1000000 := by omega
  by_cases hn : n < 0
  · have hA : typeA T (n, o) = (-1, 0) := by unfold typeA; rw [if_pos (.inl hn)]
    rw [hA]
    clear hC hO hP hW hA hs
    go_enter Try.func14, Try.ntmps14
    go_wp2_with fail
    go_ret2
    exact ⟨rfl, only_alloc (only_alloc (only_refl _ _) _) _⟩
  · have hn0 : 0 ≤ n := by omega
    by_cases hm : (T.of_.length : Int) ≤ n
    · have hA : typeA T (n, o) = (-1, 0) := by unfold typeA; rw [if_pos (.inr hm)]
      rw [hA]
      clear hC hO hP hW hA hs hn
      go_enter Try.func14, Try.ntmps14
      go_wp2_with fail
      go_ret2
      exact ⟨rfl, only_alloc (only_alloc (only_refl _ _) _) _⟩
    · have hm1 : n < (T.of_.length : Int) := by omega
      obtain ⟨n, rfl⟩ : ∃ k : Nat, n = (k : Int) := ⟨n.toNat, by omega⟩
      obtain ⟨c, hc⟩ : ∃ c, T.of_[n]? = some c := ⟨_, List.getElem?_eq_getElem (by omega)⟩
      obtain ⟨p, hp⟩ : ∃ p, T.prio[n]? = some p := ⟨_, List.getElem?_eq_getElem (by rw [hW.len]; omega)⟩
      obtain ⟨h0, h1⟩ := hW.of_ c (List.mem_of_getElem? hc)
      obtain ⟨c, rfl⟩ : ∃ k : Nat, c = (k : Int) := ⟨c.toNat, by omega⟩
      obtain ⟨y, hy⟩ : ∃ y, T.cls[c]? = some y := ⟨_, List.getElem?_eq_getElem (by omega)⟩
      obtain ⟨b, off, A2, c2, rfl, _, m0, _⟩ := cls_at hC hy
      obtain ⟨bo, oo, rfl, mo⟩ := ints_at hO hc
      obtain ⟨bp, op, rfl, mp⟩ := ints_at hP hp
      have hk := kindC_at hy
      have hb : b < w.heap.size := cell_lt m0
      have hbo : bo < w.heap.size := cell_lt mo
      have hbp : bp < w.heap.size := cell_lt mp
      have hA : typeA T ((n : Int), o) = if y.kind = 0 then ((c : Int), 0) else ((c : Int), wrap64 (p + o)) := by
        unfold typeA
        rw [if_neg (by dsimp only; omega)]
        dsimp only
        rw [Int.toNat_natCast, List.getD_eq_getElem?_getD, List.getD_eq_getElem?_getD, hc, hp]
        simp only [Option.getD_some, hk]
      have hpI : (T.prio.length : Int) ≤ 1000000 := by have := hW.len; omega
      have hmp : (n : Int) < (T.prio.length : Int) := by have := hW.len; omega
      rw [hA]
      by_cases h5 : y.kind = 0
      · rw [if_pos h5]
        rw [h5] at m0
        clear hC hO hP hk h5 hy hW hA hs hn hm hc hp
        go_enter Try.func14, Try.ntmps14
        go_wp2_with fail
        go_ret2
        exact ⟨rfl, only_alloc (only_alloc (only_refl _ _) _) _⟩
      · rw [if_neg h5]
        have h5b : (y.kind == 0) = false := by simp [h5]
        have h5d : decide (y.kind = 0) = false := decide_eq_false h5
        clear hC hO hP hk hy hW hA hs hn hm hc hp
        go_enter Try.func14, Try.ntmps14
        go_upto_region 6 with fail
        go_quiet (fail)
        go_wp2_with fail
        go_ret2
        exact ⟨rfl, only_drewN_C (only_alloc (only_alloc (only_refl _ _) _) _) _⟩
end Go.Proofs.Ytepjkoegbehojaa

/- The document's own answers of layer 7: place, link, unlike. -/
namespace Go.Proofs.Ytepjkoegbehojaa
open Go.RowKit Go.Shelf

theorem rres_any (L : List Nd) (v : Value) (t : Ed) (w : World) (hT : Tbl w v L) (hl : L.length ≤ 1000000) :
    Calls Try.prog 31 #[v, edV t] w fun e w' => e = .returned (edV (resolveL L t)) ∧ w.grownBy w' none := by
  have := refResolve_any L v t w hT hl
  rw [pick_fuel] at this
  exact this
theorem rres_is {L : List Nd} {t r : Ed} (h : resolveL L t = r) {v : Value} {w : World} (hT : Tbl w v L) (hl : L.length ≤ 1000000) :
    Calls Try.prog 31 #[v, edV t] w fun e w' => e = .returned (edV r) ∧ w.grownBy w' none := by
  have := rres_any L v t w hT hl
  rw [h] at this
  exact this

set_option maxRecDepth 100000 in
set_option maxHeartbeats 2000000 in
theorem rplace_any (L : List Nd) (hL : TW L) (hl : L.length ≤ 128) (v : Value) (a : Nat) (x : Nd) (hx : L[a]? = some x) (e : Ed) (he : e ∈ allE x) (w : World) (hT : Tbl w v L) :
    Calls Try.prog 53 #[v, .int .i64 (a : Int), edV e] w fun en w' => en = .returned (.tuple #[.int .i64 ((placeL L x e).1 : Int), .int .i64 (placeL L x e).2]) ∧ w.grownBy w' none := by
  obtain ⟨m, y, s, hy, h5, s0, s1, hre, hpl⟩ := hL.goes (List.mem_of_getElem? hx) he
  rw [hpl]
  have HT := Lib.hid hT
  have HRE := Lib.hid hre
  have HL : Hid (L.length ≤ 128) := Lib.hid hl
  obtain ⟨A, cap, rfl, _⟩ := id hT
  obtain ⟨b, off, A2, c2, rfl, _, m0, m1, _⟩ := cls_at hT hy
  obtain ⟨b', off', A2', c2', hbb, _, x0, x1, _⟩ := cls_at hT hx
  simp only [Option.some.injEq, Addr.mk.injEq, and_true] at hbb
  obtain ⟨rfl, rfl⟩ := hbb
  have hb : b < w.heap.size := cell_lt m0
  have hyp := (hL.good y (List.mem_of_getElem? hy)).2.1
  have hxp := (hL.good x (List.mem_of_getElem? hx)).2.1
  obtain ⟨hp0, hp1⟩ := hyp
  obtain ⟨hq0, hq1⟩ := hxp
  have hmI : (m : Int) < (L.length : Int) := by have := (List.getElem?_eq_some_iff.1 hy).1; omega
  have haI : (a : Int) < (L.length : Int) := by have := (List.getElem?_eq_some_iff.1 hx).1; omega
  have hm0 : (0 : Int) ≤ (m : Int) := by omega
  have ha0 : (0 : Int) ≤ (a : Int) := by omega
  have hlI : (L.length : Int) ≤ 128 := by omega
  obtain ⟨ea, es⟩ := e
  clear hT hre hpl hL he hx hl
  by_cases h0 : y.kind = 0
  · rw [h0] at m0
    rw [if_pos h0]
    clear h0 h5 hy
    go_enter Try.func53, Try.ntmps53
    go_wp2_with (go_at_call 31; go_must (refine (rres_is HRE.out (HT.out.keep (.grown (only_alloc (only_refl _ _) _))) (by have := HL.out; omega)).mono ?_; rintro e W2 ⟨rfl, hg2⟩; have HG2 := Lib.hid (only_trans (only_alloc (only_refl w none) _) hg2); have n0 := Keeps.grown HG2.out _ _ m0; have hb2 : b < W2.heap.size := cell_lt n0; clear hg2))
    go_ret2
    exact ⟨rfl, only_alloc HG2.out _⟩
  · have h5b : (y.kind == 0) = false := by simp [h0]
    have h5d : decide (y.kind = 0) = false := decide_eq_false h0
    rw [if_neg h0]
    have hw1 : IntKind.i64.wrap (y.prio + s) = y.prio + s := IntWalk.i64_in _ ⟨by omega, by omega⟩
    have hw2 : IntKind.i64.wrap (y.prio + s - x.prio) = y.prio + s - x.prio := IntWalk.i64_in _ ⟨by omega, by omega⟩
    clear hy
    go_enter Try.func53, Try.ntmps53
    go_upto_region 4 with (go_at_call 31; go_must (refine (rres_is HRE.out (HT.out.keep (.grown (only_alloc (only_refl _ _) _))) (by have := HL.out; omega)).mono ?_; rintro e W2 ⟨rfl, hg2⟩; have HG2 := Lib.hid (only_trans (only_alloc (only_refl w none) _) hg2); have n0 := Keeps.grown HG2.out _ _ m0; have n1 := Keeps.grown HG2.out _ _ m1; have z1 := Keeps.grown HG2.out _ _ x1; have hb2 : b < W2.heap.size := cell_lt n0; clear hg2))
    go_quiet (fail)
    go_wp2_with fail
    go_ret2
    exact ⟨rfl, only_drewN_C (only_alloc HG2.out _) _⟩

theorem link_results {tmps : Array Value} {W : World} {g : Nat} {e : Ed} (hp : tmps.getD 8 undef = .pointer (some ⟨g, 0, none⟩)) (hb : Blk W g 54 (edCells e)) :
    (results Try.f32 tmps).run Try.prog W = .ok (edV e) W := by
  have c0 := hb.cell 0
  have c1 := hb.cell 1
  have hp' : tmps[8]?.getD undef = .pointer (some ⟨g, 0, none⟩) := by simpa using hp
  simp [results, Try.results32, hp', go_sem, c0, c1]
theorem rplace_is {L : List Nd} (hL : TW L) (hl : L.length ≤ 128) {v : Value} {a : Nat} {x : Nd} (hx : L[a]? = some x) {e : Ed} (he : e ∈ allE x) {m : Nat} {r : Int} (hp : placeL L x e = (m, r)) {w : World} (hT : Tbl w v L) :
    Calls Try.prog 53 #[v, .int .i64 (a : Int), edV e] w fun en w' => en = .returned (.tuple #[.int .i64 (m : Int), .int .i64 r]) ∧ w.grownBy w' none := by
  have := rplace_any L hL hl v a x hx e he w hT
  rw [hp] at this
  exact this

set_option maxRecDepth 100000 in
set_option maxHeartbeats 2000000 in
theorem rlink_any (L : List Nd) (hL : TW L) (hl : L.length ≤ 128) (v : Value) (a : Nat) (x : Nd) (hx : L[a]? = some x) (e : Ed) (he : e ∈ allE x) (os : List Int) (hos : os.length = L.length) (vc vo vp : Value) (w : World) (hT : Tbl w v L) (hO : Ints w vo os) :
    Calls Try.prog 32 #[v, .agg #[vc, vo, vp], .int .i64 (a : Int), edV e] w fun en w' => en = .returned (edV (os.getD (placeL L x e).1 0, (placeL L x e).2)) ∧ w.grownBy w' none := by
  obtain ⟨m, y, s, hy, h5, s0, s1, hre, hpl⟩ := hL.goes (List.mem_of_getElem? hx) he
  obtain ⟨r, hr⟩ : ∃ r, (if y.kind = 0 then (0 : Int) else y.prio + s - x.prio) = r := ⟨_, rfl⟩
  rw [hr] at hpl
  have HPL := Lib.hid hpl
  have HT := Lib.hid hT
  have hml := (List.getElem?_eq_some_iff.1 hy).1
  obtain ⟨c, hc⟩ : ∃ c, os[m]? = some c := ⟨_, List.getElem?_eq_getElem (by omega)⟩
  have hget : os.getD m 0 = c := by rw [List.getD_eq_getElem?_getD, hc]; rfl
  rw [hpl]
  dsimp only
  rw [hget]
  have HC := Lib.hid (fun W (h : w.grownBy W none) => rplace_is hL hl hx he hpl (v := v) (w := W) (hT.keep (.grown h)))
  obtain ⟨A, cap, rfl, _⟩ := id hO
  obtain ⟨b, off, rfl, m0⟩ := ints_at hO hc
  have hb : b < w.heap.size := cell_lt m0
  have hmI : (m : Int) < (os.length : Int) := by omega
  have hm0 : (0 : Int) ≤ (m : Int) := by omega
  have hoI : (os.length : Int) ≤ 128 := by omega
  obtain ⟨ea, es⟩ := e
  clear hT hO hL hl hx he hre hpl hy h5 hr hc hget hos
  go_enter Try.func32, Try.ntmps32
  go_wp2_with fail
  have hgX : w.grownBy (((w.alloc (.cells #[vc, .slice (some ⟨b, off, none⟩) os.length cap, vp] 27)).alloc (.cells #[.int .i64 ea, .int .i64 es] 43)).alloc (.cells #[.int .i64 0, .int .i64 0] 54)) none := only_alloc (only_alloc (only_alloc (only_refl _ _) _) _) _
  have b0 : Blk (((w.alloc (.cells #[vc, .slice (some ⟨b, off, none⟩) os.length cap, vp] 27)).alloc (.cells #[.int .i64 ea, .int .i64 es] 43)).alloc (.cells #[.int .i64 0, .int .i64 0] 54)) w.heap.size 27 #[vc, .slice (some ⟨b, off, none⟩) os.length cap, vp] := ((Blk.new w _ _).alloc _).alloc _
  have b2 : Blk (((w.alloc (.cells #[vc, .slice (some ⟨b, off, none⟩) os.length cap, vp] 27)).alloc (.cells #[.int .i64 ea, .int .i64 es] 43)).alloc (.cells #[.int .i64 0, .int .i64 0] 54)) (w.heap.size + 1 + 1) 54 #[.int .i64 0, .int .i64 0] := blk_at (by simp) _ _
  refine (HC.out _ hgX).mono ?_
  rintro e W2 ⟨rfl, hg2⟩
  have HG := Lib.hid (only_trans hgX hg2)
  have k0 := b0.kept hg2
  have HB2 := Lib.hid (b2.kept hg2)
  have z1 : W2.cell? ⟨w.heap.size, 1, none⟩ = some (.slice (some ⟨b, off, none⟩) os.length cap) := k0.cell 1
  have f0 := HB2.out.frozen 0
  have f1 := HB2.out.frozen 1
  have c0 : W2.cell? ⟨w.heap.size + 1 + 1, 0, none⟩ = some (.int .i64 0) := HB2.out.cell 0
  have c1 : W2.cell? ⟨w.heap.size + 1 + 1, 1, none⟩ = some (.int .i64 0) := HB2.out.cell 1
  have hm2 := Keeps.grown HG.out _ _ m0
  clear b0 b2 hg2 hgX k0 m0 HC HPL
  go_wp2_with fail
  refine bodyPost_ret (link_results (e := (c, r)) rfl ((HB2.out.set_ 0 (.int .i64 c)).set_ 1 (.int .i64 r))) rfl ?_
  exact ⟨rfl, only_setNew (only_setNew HG.out (p := ⟨w.heap.size + 1 + 1, 0, none⟩) (by show w.heap.size ≤ w.heap.size + 1 + 1; omega) _) (p := ⟨w.heap.size + 1 + 1, 1, none⟩) (by show w.heap.size ≤ w.heap.size + 1 + 1; omega) _⟩
end Go.Proofs.Ytepjkoegbehojaa

/- The document's own answers of layer 7: unlike. -/
namespace Go.Proofs.Ytepjkoegbehojaa
open Go.RowKit Go.Shelf

/-- A list of lists of bools that reads as a table. -/
def MatV (W : World) (v : Value) (N : Nat) (M : Nat → Nat → Bool) : Prop := ∃ b off cap, v = .slice (some ⟨b, off, none⟩) N cap ∧ ∀ a, a < N → ∃ ba oa ca, W.cell? ⟨b, off + a, none⟩ = some (.slice (some ⟨ba, oa, none⟩) N ca) ∧ ∀ c, c < N → W.cell? ⟨ba, oa + c, none⟩ = some (.bool (M a c))
theorem MatV.keep {W W' : World} {v : Value} {N : Nat} {M : Nat → Nat → Bool} (h : MatV W v N M) (hk : Keeps W W') : MatV W' v N M := by
  obtain ⟨b, off, cap, h1, h2⟩ := h
  refine ⟨b, off, cap, h1, fun a ha => ?_⟩
  obtain ⟨ba, oa, ca, h3, h4⟩ := h2 a ha
  exact ⟨ba, oa, ca, hk _ _ h3, fun c hc => hk _ _ (h4 c hc)⟩

/-- Whether two edges tell their nodes apart. -/
def difE (L : List Nd) (M : Nat → Nat → Bool) (x y : Nd) (p : Ed × Ed) : Bool := M (placeL L x p.1).1 (placeL L y p.2).1 || !decide ((placeL L x p.1).2 = (placeL L y p.2).2)
section
variable {L : List Nd} {M : Nat → Nat → Bool} {a b : Nat} {x y : Nd}
theorem unl_head (hx : L[a]? = some x) (hy : L[b]? = some y) (h : x.kind ≠ y.kind ∨ x.chan ≠ y.chan ∨ x.next.length ≠ y.next.length) : unl (hdL L) (scL L) M a b = true := by
  unfold unl hdL
  rw [hx, hy]
  have : ¬ ((x.kind, x.chan, x.next.length) = (y.kind, y.chan, y.next.length)) := fun e => by
    simp only [Prod.mk.injEq] at e
    rcases h with h | h | h
    · exact h e.1
    · exact h e.2.1
    · exact h e.2.2
  dsimp only
  rw [decide_eq_false this]; rfl
theorem unl_same (hx : L[a]? = some x) (hy : L[b]? = some y) (h1 : x.kind = y.kind) (h2 : x.chan = y.chan) (h3 : x.next.length = y.next.length) :
    unl (hdL L) (scL L) M a b = ((x.next.zip y.next).any (difE L M x y) || (x.chan && difE L M x y (x.pay, y.pay))) := by
  unfold unl hdL scL
  rw [hx, hy]
  dsimp only
  rw [decide_eq_true (show (x.kind, x.chan, x.next.length) = (y.kind, y.chan, y.next.length) by rw [h1, h2, h3]), Bool.not_true, Bool.false_or]
  unfold allE
  rw [List.map_append, List.map_append, List.zip_append (by rw [List.length_map, List.length_map, h3]), List.any_append]
  congr 1
  · rw [List.zip_map, List.any_map]; rfl
  · rw [← h2]
    cases hc : x.chan with
    | false => simp
    | true => simp [difE]
theorem zip_any_true {α : Type} {p : α × α → Bool} {l k : List α} {q : Nat} {e f : α} (h1 : l[q]? = some e) (h2 : k[q]? = some f) (h : p (e, f) = true) : (l.zip k).any p = true := List.any_eq_true.2 ⟨_, zip_at h1 h2, h⟩
theorem zip_any_false {α : Type} {p : α × α → Bool} {l k : List α} (h : ∀ (q : Nat) (e f : α), l[q]? = some e → k[q]? = some f → p (e, f) = false) : (l.zip k).any p = false := by
  rw [List.any_eq_false]
  rintro ⟨e, f⟩ hp
  obtain ⟨q, h1, h2⟩ := zip_mem hp
  rw [h q e f h1 h2]; simp
end

theorem pl_lt {L : List Nd} (hL : TW L) {x : Nd} (hx : x ∈ L) {e : Ed} (he : e ∈ allE x) {m : Nat} {r : Int} (hp : placeL L x e = (m, r)) : m < L.length := by
  obtain ⟨m', y, s, hy, _, _, _, _, hpl⟩ := hL.goes hx he
  rw [hp] at hpl
  simp only [Prod.mk.injEq] at hpl
  rw [hpl.1]
  exact (List.getElem?_eq_some_iff.1 hy).1
/-- What stands: both nodes' boxes, the table, what is told apart. -/
structure U2 (w : World) (L : List Nd) (v mv : Value) (M : Nat → Nat → Bool) (Bx By : Nat) (x y : Nd) (vx vy : Value) (W : World) : Prop where
  gr : w.grownBy W none
  bx : Blk W Bx 46 (ndCells x vx)
  by_ : Blk W By 46 (ndCells y vy)
  ex : Edges W vx x.next
  ey : Edges W vy y.next
  mt : MatV W mv L.length M
  tb : Tbl W v L
theorem U2.kept {w W W' : World} {L : List Nd} {v mv : Value} {M : Nat → Nat → Bool} {Bx By : Nat} {x y : Nd} {vx vy : Value} (h : U2 w L v mv M Bx By x y vx vy W) (hg : W.grownBy W' none) : U2 w L v mv M Bx By x y vx vy W' :=
  ⟨only_trans h.gr hg, h.bx.kept hg, h.by_.kept hg, h.ex.keep (.grown hg), h.ey.keep (.grown hg), h.mt.keep (.grown hg), h.tb.keep (.grown hg)⟩

set_option maxRecDepth 100000 in
set_option maxHeartbeats 4000000 in
theorem runlike_any (L : List Nd) (hL : TW L) (hl : L.length ≤ 128) (v mv : Value) (M : Nat → Nat → Bool) (a b : Nat) (x y : Nd) (hx : L[a]? = some x) (hy : L[b]? = some y) (w : World) (hT : Tbl w v L) (hM : MatV w mv L.length M) :
    Calls Try.prog 30 #[v, mv, .int .i64 (a : Int), .int .i64 (b : Int)] w fun en w' => en = .returned (.bool (unl (hdL L) (scL L) M a b)) ∧ w.grownBy w' none := by
  have HT := Lib.hid hT
  have HM := Lib.hid hM
  have HLT := Lib.hid hL
  have HL : Hid (L.length ≤ 128) := Lib.hid hl
  have HX := Lib.hid hx
  have HY := Lib.hid hy
  obtain ⟨A, cap, rfl, _⟩ := id hT
  obtain ⟨bl, ol, vA, vc, rfl, hEx, x0, x1, x2, x3, x4, x5⟩ := cls_at hT hx
  obtain ⟨bl', ol', wA, wc', hbb, hEy, y0, y1, y2, y3, y4, y5⟩ := cls_at hT hy
  simp only [Option.some.injEq, Addr.mk.injEq, and_true] at hbb
  obtain ⟨rfl, rfl⟩ := hbb
  obtain ⟨bm, om, cm, rfl, _⟩ := id hM
  have hal : a < L.length := (List.getElem?_eq_some_iff.1 hx).1
  have hbl : b < L.length := (List.getElem?_eq_some_iff.1 hy).1
  have hx8 := (hL.good x (List.mem_of_getElem? hx)).2.2
  have hy8 := (hL.good y (List.mem_of_getElem? hy)).2.2
  have hx8I : (x.next.length : Int) ≤ 8 := by omega
  have hy8I : (y.next.length : Int) ≤ 8 := by omega
  have HEX := Lib.hid hEx
  have HEY := Lib.hid hEy
  obtain ⟨u, hu⟩ : ∃ u, unl (hdL L) (scL L) M a b = u := ⟨_, rfl⟩
  rw [hu]
  have HU := Lib.hid hu
  clear hT hM hL hl hx hy hEx hEy hu
  go_enter Try.func30, Try.ntmps30
  go_upto_region 1 with fail
  go_cut [9, 10] from 20 to 119 (fun p q W => ∃ Bx By, p = .pointer (some ⟨Bx, 0, none⟩) ∧ q = .pointer (some ⟨By, 0, none⟩) ∧ U2 w L (.slice (some ⟨bl, ol, none⟩) L.length cap) (.slice (some ⟨bm, om, none⟩) L.length cm) M Bx By x y (.slice vA x.next.length vc) (.slice wA y.next.length wc') W)
  case first =>
    refine region_two (by kernel_rfl) (by kernel_rfl) [20, 21, 22, 23, 24, 25, 26, 27, 9, 10] (by kernel_rfl) (by kernel_rfl) (by decide)
      [(0, .slice (some ⟨bl, ol, none⟩) L.length cap), (2, .int .i64 (a : Int)), (3, .int .i64 (b : Int)), (20, .slice (some ⟨bl, ol, none⟩) L.length cap), (21, .int .i64 (a : Int)), (22, .pointer (some ⟨bl, ol + a * 6, none⟩)), (23, ndV x (.slice vA x.next.length vc)),
       (24, .slice (some ⟨bl, ol, none⟩) L.length cap), (25, .int .i64 (b : Int)), (26, .pointer (some ⟨bl, ol + b * 6, none⟩)), (27, ndV y (.slice wA y.next.length wc'))]
      ⟨9, 46, ndCells ⟨0, 0, false, (0, 0), []⟩ (.slice none 0 0), ndCells x (.slice vA x.next.length vc), 23, 8, 10⟩ ⟨10, 46, ndCells ⟨0, 0, false, (0, 0), []⟩ (.slice none 0 0), ndCells y (.slice wA y.next.length wc'), 27, 9, 11⟩
      ?h0 (boxed_node _ _ _ _ _ _ _ _) (boxed_node _ _ _ _ _ _ _ _) rfl rfl rfl rfl (by dsimp only; decide) (by kernel_rfl) (by kernel_rfl) (by kernel_rfl) (by kernel_rfl) ?hops ?hQ
    case h0 =>
      intro p hp hn
      simp only [List.mem_cons, List.not_mem_nil, or_false] at hp
      rcases hp with rfl | rfl | rfl | rfl | rfl | rfl | rfl | rfl | rfl | rfl | rfl
      all_goals first | rfl | exact absurd (by dsimp only; decide) hn
    case hops =>
      exact ⟨.val 20 _ rfl rfl rfl (ov_move rfl rfl), .val 21 _ rfl rfl rfl (ov_move rfl rfl), .val 22 _ rfl rfl rfl (ov_index rfl rfl rfl hal), .val 23 _ rfl rfl rfl (ov_load_node rfl rfl x0 x1 x2 x3 x4 x5),
        .val 24 _ rfl rfl rfl (ov_move rfl rfl), .val 25 _ rfl rfl rfl (ov_move rfl rfl), .val 26 _ rfl rfl rfl (ov_index rfl rfl rfl hbl), .val 27 _ rfl rfl rfl (ov_load_node rfl rfl y0 y1 y2 y3 y4 y5),
        .al1 rfl rfl rfl, .al2 rfl rfl rfl, .st1 rfl rfl rfl, .st2 rfl rfl rfl, trivial⟩
    case hQ =>
      intro vs W Bm Bn hg e1 e2 hne h1 h2 k1 k2
      have HZ : Hid (∃ Bx By, vs 9 = .pointer (some ⟨Bx, 0, none⟩) ∧ vs 10 = .pointer (some ⟨By, 0, none⟩) ∧ U2 w L (.slice (some ⟨bl, ol, none⟩) L.length cap) (.slice (some ⟨bm, om, none⟩) L.length cm) M Bx By x y (.slice vA x.next.length vc) (.slice wA y.next.length wc') W) :=
        Lib.hid ⟨Bm, Bn, e1, e2, hg, k1, k2, HEX.out.keep (.grown hg), HEY.out.keep (.grown hg), HM.out.keep (.grown hg), HT.out.keep (.grown hg)⟩
      clear hg e1 e2 hne h1 h2 k1 k2
      simp only [List.foldl_cons, List.foldl_nil, List.setIfInBounds_toArray, List.set_cons_zero, List.set_cons_succ]
      go_wp2_with fail
      go_meet
      exact HZ.out
  case rest =>
    obtain ⟨Bx, By, rfl, rfl, h2⟩ := hcut
    have HU2 := Lib.hid h2
    obtain ⟨p0, p1, p2, p3, p4, p5⟩ := nd_cells h2.bx
    obtain ⟨q0, q1, q2, q3, q4, q5⟩ := nd_cells h2.by_
    clear h2 x0 x1 x2 x3 x4 x5 y0 y1 y2 y3 y4 y5 HEX HEY HT HM
    have HXM : Hid (x ∈ L ∧ y ∈ L) := Lib.hid ⟨List.mem_of_getElem? HX.out, List.mem_of_getElem? HY.out⟩
    by_cases hk : x.kind = y.kind
    · by_cases hc : x.chan = y.chan
      · by_cases hn : x.next.length = y.next.length
        · have hus := unl_same (M := M) HX.out HY.out hk hc hn
          rw [HU.out] at hus
          have HUS := Lib.hid hus
          rw [← hk] at q0
          rw [← hc] at q2
          have hc2 := hc
          rw [← hn] at q5
          have HN := Lib.hid hn
          have HCH := Lib.hid hc
          have hs9 := hx8I
          clear hus hk hc hc2 hn
          go_upto_if 50 with fail
          go_cut [15] from 28 to 119 (fun _ W => (x.chan = true → difE L M x y (x.pay, y.pay) = false) ∧ U2 w L (.slice (some ⟨bl, ol, none⟩) L.length cap) (.slice (some ⟨bm, om, none⟩) L.length cm) M Bx By x y (.slice vA x.next.length vc) (.slice wA y.next.length wc') W)
          case first =>
            cases hch : x.chan
            · rw [hch] at p2 q2
              go_wp2_with fail
              go_meet
              exact ⟨fun h => (by rw [hch] at h; cases h), HU2.out⟩
            · rw [hch] at p2 q2
              obtain ⟨⟨m1, r1⟩, hp1⟩ : ∃ z, placeL L x x.pay = z := ⟨_, rfl⟩
              obtain ⟨⟨m2, r2⟩, hp2⟩ : ∃ z, placeL L y y.pay = z := ⟨_, rfl⟩
              have hin1 : x.pay ∈ allE x := by unfold allE; rw [hch]; simp
              have hin2 : y.pay ∈ allE y := by unfold allE; rw [← HCH.out, hch]; simp
              have hm1 := pl_lt HLT.out HXM.out.1 hin1 hp1
              have hm2 := pl_lt HLT.out HXM.out.2 hin2 hp2
              have HC1 := Lib.hid (fun W (h : Tbl W (.slice (some ⟨bl, ol, none⟩) L.length cap) L) => rplace_is HLT.out HL.out HX.out hin1 hp1 h)
              have HC2 := Lib.hid (fun W (h : Tbl W (.slice (some ⟨bl, ol, none⟩) L.length cap) L) => rplace_is HLT.out HL.out HY.out hin2 hp2 h)
              have hdf : difE L M x y (x.pay, y.pay) = (M m1 m2 || !decide (r1 = r2)) := by unfold difE; rw [hp1, hp2]
              have HDF := Lib.hid hdf
              have HB : Hid (m1 < L.length ∧ m2 < L.length ∧ x.chan = true) := Lib.hid ⟨hm1, hm2, hch⟩
              clear hdf hm1 hm2 hin1 hin2 hp1 hp2 hch
              go_upto_region 6 with (go_at_call 53; go_must (refine (HC1.out _ HU2.out.tb).mono ?_; rintro e W3 ⟨rfl, hg3⟩; have HU3 := Lib.hid (HU2.out.kept hg3); obtain ⟨_, _, _, g3, g4, _⟩ := nd_cells HU3.out.by_; clear hg3))
              go_upto_region 7 with (go_at_call 53; go_must (refine (HC2.out _ HU3.out.tb).mono ?_; rintro e W4 ⟨rfl, hg4⟩; have HU4 := Lib.hid (HU3.out.kept hg4); clear hg4))
              obtain ⟨bm', om', cm', hmv, hrows⟩ := HU4.out.mt
              obtain ⟨⟨rfl, rfl⟩, rfl⟩ : (bm = bm' ∧ om = om') ∧ cm = cm' := by simpa using hmv
              obtain ⟨ba, oa, ca, j0, j1⟩ := hrows m1 HB.out.1
              have j2 := j1 m2 HB.out.2.1
              have hm1I : (m1 : Int) < (L.length : Int) := by have := HB.out.1; omega
              have hm2I : (m2 : Int) < (L.length : Int) := by have := HB.out.2.1; omega
              have hm10 : (0 : Int) ≤ (m1 : Int) := by omega
              have hm20 : (0 : Int) ≤ (m2 : Int) := by omega
              have hLI : (L.length : Int) ≤ 128 := by have := HL.out; omega
              clear hmv hrows j1
              cases hbit : M m1 m2
              · rw [hbit] at j2
                by_cases hr : r1 = r2
                · subst hr
                  have HD : Hid (difE L M x y (x.pay, y.pay) = false) := Lib.hid (by rw [HDF.out, hbit]; simp)
                  clear hbit
                  go_wp2_with fail
                  go_meet
                  exact ⟨fun _ => HD.out, HU4.out⟩
                · have hrb : (r1 != r2) = true := by simp [hr]
                  have hu : u = true := by rw [HUS.out, HDF.out, HB.out.2.2]; simp [hr]
                  subst hu
                  go_wp2_with fail
                  go_ret
                  exact ⟨rfl, HU4.out.gr⟩
              · rw [hbit] at j2
                have hu : u = true := by rw [HUS.out, HDF.out, HB.out.2.2, hbit]; simp
                subst hu
                go_wp2_with fail
                go_ret
                exact ⟨rfl, HU4.out.gr⟩
          case rest =>
            obtain ⟨hpay, hu2⟩ := hcut
            have HPAY := Lib.hid hpay
            have HU5 := Lib.hid hu2
            clear hpay hu2 HU2 p0 p1 p2 p3 p4 p5 q0 q1 q2 q3 q4 q5
            go_wp2_with fail
            go_loopw [15] (fun i W => ∃ q : Nat, q ≤ x.next.length ∧ i = .int .i64 (q : Int) ∧ (∀ (j : Nat) (e f : Ed), j < q → x.next[j]? = some e → y.next[j]? = some f → difE L M x y (e, f) = false) ∧ U2 w L (.slice (some ⟨bl, ol, none⟩) L.length cap) (.slice (some ⟨bm, om, none⟩) L.length cm) M Bx By x y (.slice vA x.next.length vc) (.slice wA y.next.length wc') W) (fun i _ => 16 - (intOf i).toNat)
            case atStart => exact ⟨0, Nat.zero_le _, rfl, fun j e f h => by omega, HU5.out⟩
            case round =>
              clear HU5
              obtain ⟨q, hq, rfl, hdone, hu5⟩ := hrel
              have HD := Lib.hid hdone
              have HU6 := Lib.hid hu5
              have p5 : wr.cell? ⟨Bx, 5, none⟩ = some (.slice vA x.next.length vc) := hu5.bx.cell 5
              have q5 : wr.cell? ⟨By, 5, none⟩ = some (.slice wA x.next.length wc') := by rw [HN.out]; exact hu5.by_.cell 5
              clear hdone
              by_cases hlt : q < x.next.length
              · have hqI : (q : Int) < (x.next.length : Int) := by omega
                have hq0 : (0 : Int) ≤ (q : Int) := by omega
                obtain ⟨⟨e1, e2⟩, he⟩ : ∃ e, x.next[q]? = some e := ⟨_, List.getElem?_eq_getElem hlt⟩
                obtain ⟨⟨f1, f2⟩, hf⟩ : ∃ f, y.next[q]? = some f := ⟨_, List.getElem?_eq_getElem (by have := HN.out; omega)⟩
                obtain ⟨A5, c5, hA5, _, hcl5⟩ := hu5.ex
                obtain ⟨b5, o5, hb5, hce5⟩ := hcl5 (by intro e0; rw [e0] at hlt; simp at hlt)
                obtain ⟨rfl, rfl⟩ : vA = A5 ∧ vc = c5 := by simpa using hA5
                subst hb5
                obtain ⟨k0, k1⟩ := hce5 q _ he
                obtain ⟨A6, c6, hA6, _, hcl6⟩ := hu5.ey
                obtain ⟨b6, o6, hb6, hce6⟩ := hcl6 (by intro e0; rw [e0] at hf; simp at hf)
                obtain ⟨rfl, rfl⟩ : wA = A6 ∧ wc' = c6 := by simpa using hA6
                subst hb6
                obtain ⟨l0, l1⟩ := hce6 q _ hf
                dsimp only at k0 k1 l0 l1
                obtain ⟨⟨m1, r1⟩, hp1⟩ : ∃ z, placeL L x (e1, e2) = z := ⟨_, rfl⟩
                obtain ⟨⟨m2, r2⟩, hp2⟩ : ∃ z, placeL L y (f1, f2) = z := ⟨_, rfl⟩
                have hin1 : ((e1, e2) : Ed) ∈ allE x := List.mem_append_left _ (List.mem_of_getElem? he)
                have hin2 : ((f1, f2) : Ed) ∈ allE y := List.mem_append_left _ (List.mem_of_getElem? hf)
                have hm1 := pl_lt HLT.out HXM.out.1 hin1 hp1
                have hm2 := pl_lt HLT.out HXM.out.2 hin2 hp2
                have HC1 := Lib.hid (fun W (h : Tbl W (.slice (some ⟨bl, ol, none⟩) L.length cap) L) => rplace_is HLT.out HL.out HX.out hin1 hp1 h)
                have HC2 := Lib.hid (fun W (h : Tbl W (.slice (some ⟨bl, ol, none⟩) L.length cap) L) => rplace_is HLT.out HL.out HY.out hin2 hp2 h)
                have hdf : difE L M x y ((e1, e2), (f1, f2)) = (M m1 m2 || !decide (r1 = r2)) := by unfold difE; rw [hp1, hp2]
                have HDF := Lib.hid hdf
                have HB : Hid (m1 < L.length ∧ m2 < L.length) := Lib.hid ⟨hm1, hm2⟩
                have HE := Lib.hid he
                have HF := Lib.hid hf
                clear hdf hm1 hm2 hin1 hin2 hp1 hp2 he hf hA5 hcl5 hce5 hA6 hcl6 hce6 hu5
                go_upto_region 13 with (go_at_call 53; go_must (refine (HC1.out _ HU6.out.tb).mono ?_; rintro e W3 ⟨rfl, hg3⟩; have HU7 := Lib.hid (HU6.out.kept hg3); have q5b : W3.cell? ⟨By, 5, none⟩ = some (.slice (some ⟨b6, o6, none⟩) x.next.length wc') := Keeps.grown hg3 _ _ q5; have l0b := Keeps.grown hg3 _ _ l0; have l1b := Keeps.grown hg3 _ _ l1; clear hg3))
                go_upto_region 14 with (go_at_call 53; go_must (refine (HC2.out _ HU7.out.tb).mono ?_; rintro e W4 ⟨rfl, hg4⟩; have HU8 := Lib.hid (HU7.out.kept hg4); clear hg4))
                obtain ⟨bm', om', cm', hmv, hrows⟩ := HU8.out.mt
                obtain ⟨⟨rfl, rfl⟩, rfl⟩ : (bm = bm' ∧ om = om') ∧ cm = cm' := by simpa using hmv
                obtain ⟨ba, oa, ca, j0, j1⟩ := hrows m1 HB.out.1
                have j2 := j1 m2 HB.out.2
                have hm1I : (m1 : Int) < (L.length : Int) := by have := HB.out.1; omega
                have hm2I : (m2 : Int) < (L.length : Int) := by have := HB.out.2; omega
                have hm10 : (0 : Int) ≤ (m1 : Int) := by omega
                have hm20 : (0 : Int) ≤ (m2 : Int) := by omega
                have hLI : (L.length : Int) ≤ 128 := by have := HL.out; omega
                clear hmv hrows j1 p5 q5 k0 k1 l0 l1 q5b l0b l1b
                cases hbit : M m1 m2
                · rw [hbit] at j2
                  by_cases hr : r1 = r2
                  · subst hr
                    have hnew : ∀ (j : Nat) (e f : Ed), j < q + 1 → x.next[j]? = some e → y.next[j]? = some f → difE L M x y (e, f) = false := fun j e f hj h1 h2 => by
                      by_cases hjq : j = q
                      · subst hjq
                        rw [HE.out] at h1
                        rw [HF.out] at h2
                        obtain rfl := Option.some.inj h1
                        obtain rfl := Option.some.inj h2
                        rw [HDF.out, hbit]; simp
                      · exact HD.out j e f (by omega) h1 h2
                    have HNEW := Lib.hid hnew
                    clear hbit hnew
                    go_wp2_with fail
                    go_roundw
                    case rel => exact ⟨q + 1, by omega, by go_num, HNEW.out, HU8.out⟩
                    case measure => simp [intOf]; omega
                  · have hrb : (r1 != r2) = true := by simp [hr]
                    have hdt : difE L M x y ((e1, e2), (f1, f2)) = true := by rw [HDF.out]; simp [hr]
                    have hu : u = true := by rw [HUS.out, zip_any_true HE.out HF.out hdt]; rfl
                    subst hu
                    go_wp2_with fail
                    go_ret
                    exact ⟨rfl, HU8.out.gr⟩
                · rw [hbit] at j2
                  have hdt : difE L M x y ((e1, e2), (f1, f2)) = true := by rw [HDF.out, hbit]; rfl
                  have hu : u = true := by rw [HUS.out, zip_any_true HE.out HF.out hdt]; rfl
                  subst hu
                  go_wp2_with fail
                  go_ret
                  exact ⟨rfl, HU8.out.gr⟩
              · have hqI : (x.next.length : Int) ≤ (q : Int) := by omega
                have hu : u = false := by
                  rw [HUS.out, zip_any_false (fun j e f h1 h2 => HD.out j e f (by have := (List.getElem?_eq_some_iff.1 h1).1; omega) h1 h2), Bool.false_or]
                  cases hch : x.chan with
                  | false => rfl
                  | true => rw [HPAY.out hch]; rfl
                subst hu
                clear hu5 hlt hq
                go_wp2_with fail
                go_ret
                exact ⟨rfl, HU6.out.gr⟩
        · have hu : u = true := by rw [← HU.out]; exact unl_head HX.out HY.out (.inr (.inr hn))
          subst hu
          rw [← hk] at q0
          rw [← hc] at q2
          have hnb : ((x.next.length : Int) != (y.next.length : Int)) = true := by simp [bne_iff_ne]; omega
          go_wp2_with fail
          go_ret
          exact ⟨rfl, HU2.out.gr⟩
      · have hu : u = true := by rw [← HU.out]; exact unl_head HX.out HY.out (.inr (.inl hc))
        subst hu
        rw [← hk] at q0
        have hcb : (x.chan != y.chan) = true := by simp [hc]
        go_wp2_with fail
        go_ret
        exact ⟨rfl, HU2.out.gr⟩
    · have hu : u = true := by rw [← HU.out]; exact unl_head HX.out HY.out (.inl hk)
      subst hu
      have hkb : (x.kind != y.kind) = true := by simp [hk]
      go_wp2_with fail
      go_ret
      exact ⟨rfl, HU2.out.gr⟩
end Go.Proofs.Ytepjkoegbehojaa

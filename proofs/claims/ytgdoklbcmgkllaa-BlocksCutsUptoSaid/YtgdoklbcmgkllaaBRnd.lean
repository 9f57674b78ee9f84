/- The document's answer for blocks (colloquyref10): round. -/
import Derived.Test.YtgdoklbcmgkllaaBBeg
import Derived.Test.YtgdoklbcmgkllaaBDfs
import Derived.OwnWalk
namespace Go.Proofs.Ytgdoklbcmgkllaa
open Go.RowKit

theorem boolB_info : (Try.prog.info? 4).map (fun i => (i.zero, i.size, i.bytes)) = some (some (.bool false), 1, 1) := by kernel_rfl
theorem made_oneB (z : Value) (hz : z.cells = #[z]) (n : Nat) : madeCells z.cells (n * 1) = Array.replicate n z := by
  rw [hz, Nat.mul_one]
  apply Array.ext
  · simp [madeCells]
  · intro i h1 h2
    simp [madeCells]
    have : i % 1 = 0 := Nat.mod_one i
    simp [this]
theorem wpList_make_bs {ops : Array Oper} {rest : List Oper} {o : Oper} {a : Act} {W : World} {Q : Exit → Act → World → Prop} (hgd : o.guard = none) (l c : Operand) (ho : o.op = .makeSlice 54 l c)
    {N : Int} {n : Nat} (hl : a.eval l = .int .i64 N) (hc : a.eval c = .int .i64 N) (hN : N = (n : Int)) (hn : n ≤ 1000)
    (h : ∀ W', Blk W' W.heap.size 4 (Array.replicate n (.bool false)) → W.grownBy W' none → W'.heap.size = W.heap.size + 1 → wpList Try.prog ops Q rest (a.put o.dst (.slice (some ⟨W.heap.size, 0, none⟩) n n)) W') : wpList Try.prog ops Q (o :: rest) a W := by
  obtain ⟨i0, hi, hz0, hz1, hz2⟩ := info_parts boolB_info
  refine wpList_plain hgd fun K hK => ?_
  have hr := run_make (P := Try.prog) W 54 4 i0 _ Try.underlying54 hi hz0 .i64 .i64 (n : Int) (n : Int) (by omega) (Int.le_refl _) (by rw [hz2]; omega) (by omega)
  simp only [Int.toNat_natCast] at hr
  subst hN
  unfold Oper.wp
  simp [execOp, ho, hl, hc, hr, Result.andThen]
  refine hK _ _ (h _ ?_ (World.grownBy_alloc W _ none) (by simp))
  rw [hz1, made_oneB _ rfl]
  exact Blk.new _ _ _


/-- Which ones were seen, as a row of Booleans. -/
def bsV (s : List Bool) : Array Value := (s.map Value.bool).toArray
theorem bsV_false (n : Nat) : Array.replicate n (Value.bool false) = bsV (List.replicate n false) := by
  unfold bsV
  apply Array.ext
  · simp
  · intro i h1 h2; simp
theorem bsV_set (s : List Bool) (k : Nat) : (bsV s).setIfInBounds k (.bool true) = bsV (s.set k true) := by
  unfold bsV
  simp [List.map_set]
theorem bsV_at {s : List Bool} {k : Nat} {b : Bool} (h : s[k]? = some b) : (bsV s)[k]? = some (.bool b) := by
  unfold bsV
  simp [h]
def lenV : Value → Nat
  | .slice _ n _ => n
  | _ => 0
def seenOf (W : World) (g n : Nat) : List Bool := (List.range n).map fun k => match W.cell? ⟨g, k, none⟩ with
  | some (.bool b) => b
  | _ => false
theorem seenOf_is {W : World} {g n : Nat} {s : List Bool} (h : Blk W g 4 (bsV s)) (hl : s.length = n) : seenOf W g n = s := by
  subst hl
  apply List.ext_getElem?
  intro k
  unfold seenOf
  rw [List.getElem?_map]
  by_cases hk : k < s.length
  · rw [List.getElem?_range hk, List.getElem?_eq_getElem hk]
    have := h.cell k
    rw [bsV_at (List.getElem?_eq_getElem hk)] at this
    simp only [Option.map_some, this]
  · rw [List.getElem?_eq_none (by simpa using hk), List.getElem?_eq_none (by simpa using hk)]
    rfl
theorem BOwn.some_ {base : Nat} {W : World} {A : Option Addr} {n c : Nat} {zs : List Int} (h : BOwn base W (.slice A n c) zs) (hz : zs ≠ []) : ∃ g, A = some ⟨g, 0, none⟩ ∧ base ≤ g ∧ n ≤ c ∧ c ≤ 9223372036854775807 := by
  obtain ⟨h1, h2⟩ := h
  rcases h2 with ⟨_, h0⟩ | ⟨g, cap, cur, e, hb, ho, hn, hm, hs, hx⟩
  · exact absurd (List.length_eq_zero_iff.1 h0) hz
  · injection e with e1 e2 e3
    subst e1
    subst e2
    subst e3
    exact ⟨g, rfl, hb, hn, by unfold maxLen at hm; omega⟩
theorem goesN_len {cs : List Bi} (hl : ∀ x ∈ cs, x.2.length ≤ 1048576) (i : Nat) : (goesN cs i).length ≤ 1048577 := by
  unfold goesN
  cases hx : cs[i]? with
  | none => simp
  | some x =>
    show (goesX i x).length ≤ _
    have := hl x (List.mem_of_getElem? hx)
    unfold goesX tgtL
    rw [List.length_append]
    split <;> split <;> simp <;> omega
theorem sum_le {f : Nat → Nat} {m : Nat} : ∀ (n : Nat), (∀ k, f k ≤ m) → ((List.range n).map f).sum ≤ n * m
  | 0, _ => by simp
  | n + 1, h => by
    rw [List.range_succ, List.map_append, List.sum_append]
    have h1 := sum_le n h
    have h2 := h n
    simp only [List.map_cons, List.map_nil, List.sum_cons, List.sum_nil, Nat.add_zero]
    rw [Nat.add_mul]
    omega
theorem left_le {cs : List Bi} (hl : ∀ x ∈ cs, x.2.length ≤ 1048576) (hn : cs.length ≤ 128) (seen : List Bool) : leftB cs seen ≤ 134217856 := by
  unfold leftB
  have h := sum_le (f := fun k => if seen[k]? = some true then 0 else (goesN cs k).length) (m := 1048577) cs.length (fun k => by
    split
    · omega
    · exact goesN_len hl k)
  have h2 : cs.length * 1048577 ≤ 128 * 1048577 := Nat.mul_le_mul_right _ hn
  omega
theorem bgoes_is {cs : List Bi} {v : Value} {i : Nat} {w : World} (hC : CodeA w v cs) (hl : ∀ x ∈ cs, x.2.length ≤ 1048576) : Calls Try.prog 29 #[v, .int .i64 (i : Int)] w fun e w' => ∃ v', e = .returned v' ∧ BOwn w.heap.size w' v' (goesN cs i) ∧ w.grownBy w' none := by
  have := bgoes_any cs v (i : Int) w hC hl
  rwa [goesI_at] at this

set_option maxRecDepth 100000 in
set_option maxHeartbeats 4000000 in
theorem bround_any (cs : List Bi) (v : Value) (i : Nat) (w : World) (hi : i < cs.length) (hC : CodeA w v cs) (hl : ∀ x ∈ cs, x.2.length ≤ 1048576) (hn : cs.length ≤ 128) (hj : ∀ i x, cs[i]? = some x → jumpX cs.length i x = true) : Calls Try.prog 15 #[v, .int .i64 (i : Int)] w fun e w' => e = .returned (.bool (roundB cs i)) ∧ w.grownBy w' none := by
  obtain ⟨A, cp, rfl, _⟩ := id hC
  obtain ⟨r, hr⟩ : ∃ r, roundB cs i = r := ⟨_, rfl⟩
  rw [hr]
  obtain ⟨x, hx⟩ : ∃ x, cs[i]? = some x := ⟨_, List.getElem?_eq_getElem hi⟩
  obtain ⟨b, off, a2, b2, c2, d2, A3, cp3, rfl, hb, hI, m0, m1, m2, m3, m4, m5⟩ := code_at hC hx
  have hta := btalks_any x.1 w
  obtain ⟨tb, htb⟩ : ∃ tb, talkB x.1 = tb := ⟨_, rfl⟩
  rw [htb] at hta
  have hqi : quietN cs i = !tb := by unfold quietN; rw [hx, ← htb]
  have HQI := Lib.hid hqi
  have HR := Lib.hid hr
  have HC := Lib.hid hC
  have HL := Lib.hid hl
  have HI := Lib.hid hi
  have HJ := Lib.hid hj
  have HN := Lib.hid hn
  have hiI : (i : Int) < (cs.length : Int) := by omega
  have hi0 : (0 : Int) ≤ (i : Int) := by omega
  have hnI : (cs.length : Int) ≤ 128 := by omega
  obtain ⟨op, l⟩ := x
  dsimp only at m0 hta
  clear hr hC hl hn hi hj hI m1 m2 m3 m4 m5 hx htb hqi
  go_enter Try.func15, Try.ntmps15
  go_wp2_with fail
  refine hta.mono ?_
  rintro e w1 ⟨rfl, hg1⟩
  have HG1 := Lib.hid hg1
  clear hta hg1 m0 hb
  cases tb with
  | true =>
    have hrf : r = false := by
      rw [← HR.out]
      rw [Bool.eq_false_iff]
      intro e
      obtain ⟨m, hm⟩ := round_iff.1 e
      obtain ⟨h1, P, p0, pk, hs⟩ := hm.fns
      have := (hs 0 (by omega)).1
      rw [p0] at this
      unfold silB at this
      rw [HQI.out] at this
      cases this
    subst hrf
    go_wp2_with fail
    go_ret
    exact ⟨rfl, HG1.out⟩
  | false =>
    have hq : quietN cs i = true := HQI.out
    have HQ := Lib.hid hq
    clear hq HQI
    have HS1 : Hid (w.heap.size ≤ w1.heap.size) := HG1.out.size
    go_wp2_with (refine wpList_make_bs rfl (.tmp 15) (.tmp 15) rfl rfl rfl (n := cs.length) rfl (by have := HN.out; omega) ?_; intro W3 hb3 hg3 hs3; rw [bsV_false] at hb3; have HB3 := Lib.hid hb3; have HG3 := Lib.hid (only_trans HG1.out hg3); have HS3 := Lib.hid hs3; clear hb3 hg3 hs3)
    refine (bgoes_is (i := i) (HC.out.kept HG3.out) HL.out).mono ?_
    rintro e w4 ⟨v4, rfl, ho4, hg4⟩
    obtain ⟨A4, c4, rfl, _⟩ := ho4.reads
    have hb4 := HB3.out.kept hg4
    have HB4 := Lib.hid hb4
    have HO4 : Hid (BOwn (w1.heap.size + 1) w4 (.slice A4 (goesN cs i).length c4) (goesN cs i)) := by have := HS3.out; rw [this] at ho4; exact ho4
    have HG4 := Lib.hid (only_trans HG3.out hg4)
    clear ho4 hg4 hb4 HB3 HS3 HG3
    generalize hT0 : goesN cs i = T0 at *
    have HT0 := Lib.hid hT0
    clear hT0
    generalize hgs : w1.heap.size = gs at *
    go_wp2_with fail
    go_loopw [6] (fun td wr => ∃ (T : List Int) (seen : List Bool) (A : Option Addr) (c : Nat), td = .slice A T.length c ∧ BOwn (gs + 1) wr (.slice A T.length c) T ∧ Blk wr gs 4 (bsV seen) ∧ Dfs cs i T seen ∧ w.grownBy wr none ∧ T.length + leftB cs seen ≤ 140000000) (fun td wr => lenV td + leftB cs (seenOf wr gs cs.length))
    case atStart =>
      refine ⟨T0, List.replicate cs.length false, A4, c4, rfl, HO4.out, HB4.out, ?_, HG4.out, ?_⟩
      · rw [← HT0.out]; exact Dfs.start HJ.out HQ.out
      · have h1 := left_le HL.out HN.out (List.replicate cs.length false)
        have h2 := goesN_len HL.out i
        rw [HT0.out] at h2
        omega
    case round =>
      obtain ⟨T, seen, A5, c5, rfl, ho5, hb5, hd5, hg5, hm5⟩ := hrel
      have HB5 := Lib.hid hb5
      have HD5 := Lib.hid hd5
      have HG5 := Lib.hid hg5
      have HM5 := Lib.hid hm5
      have HO5 := Lib.hid ho5
      have hmT : (T.length : Int) ≤ 140000000 := by omega
      clear hb5 hd5 hg5 hm5 ho5
      rcases List.eq_nil_or_concat T with rfl | ⟨T', t, rfl⟩
      · have hrf : r = false := by rw [← HR.out]; exact HD5.out.done
        subst hrf
        go_wp2_with fail
        go_ret
        exact ⟨rfl, HG5.out⟩
      · rw [List.concat_eq_append] at *
        have hTl : (T' ++ [t]).length = T'.length + 1 := by simp
        obtain ⟨g, rfl, hgb, hgn, hgc⟩ := HO5.out.some_ (by simp)
        rw [hTl] at hgn
        obtain ⟨t0, t1⟩ := HD5.out.rng t (by simp)
        obtain ⟨tn, rfl⟩ : ∃ tn : Nat, t = (tn : Int) := ⟨t.toNat, by omega⟩
        obtain ⟨A6, c6, e6, hr6⟩ := HO5.out.reads
        injection e6 with e6a _ e6c
        subst e6a
        subst e6c
        obtain ⟨b7, o7, e7, _, hc7⟩ := hr6 (by simp)
        injection e7 with e7
        injection e7 with e7a e7b _
        subst e7a
        subst e7b
        have g0 : wr.cell? ⟨g, T'.length, none⟩ = some (.int .i64 (tn : Int)) := by
          have := hc7 T'.length (tn : Int) (by simp)
          rwa [Nat.zero_add] at this
        have HO6 := Lib.hid (BOwn.pop HO5.out)
        rw [hTl] at HO6 hmT ⊢
        rw [Nat.add_sub_cancel] at HO6
        clear hr6 hc7 hTl
        have hmI : (T'.length : Int) + 1 ≤ 140000000 := by omega
        have hgI : (T'.length : Int) + 1 ≤ (c5 : Int) := by omega
        have hlt : tn < cs.length := by omega
        obtain ⟨x, hx⟩ : ∃ x, cs[tn]? = some x := ⟨_, List.getElem?_eq_getElem hlt⟩
        obtain ⟨sb, hsb⟩ : ∃ sb, seen[tn]? = some sb := ⟨_, List.getElem?_eq_getElem (by rw [HD5.out.len]; exact hlt)⟩
        have s0 : wr.cell? ⟨gs, tn, none⟩ = some (.bool sb) := by rw [HB5.out.cell tn, bsV_at hsb]
        by_cases hti : tn = i
        · have hrt : r = true := by rw [← HR.out]; rw [hti] at HD5; exact HD5.out.found
          subst hrt
          subst hti
          clear hx hsb s0
          go_wp2_with fail
          go_ret
          exact ⟨rfl, HG5.out⟩
        have hne : ((tn : Int) == (i : Int)) = false := by simp; omega
        have HX := Lib.hid hx
        have HSB := Lib.hid hsb
        have HNE : Hid (tn ≠ i) := hti
        obtain ⟨b', off', a2', b2', c2', d2', A3', cp3', e8, _, _, m0, _⟩ := code_at (HC.out.kept HG5.out) hx
        injection e8 with e8
        injection e8 with e8a e8b _
        subst e8a
        subst e8b
        clear hx hsb hti
        obtain ⟨opx, lx⟩ := x
        dsimp only at m0
        obtain ⟨tb, htb⟩ : ∃ tb, talkB opx = tb := ⟨_, rfl⟩
        have hta := btalks_any opx wr
        rw [htb] at hta
        have hqt : quietN cs tn = !tb := by unfold quietN; rw [HX.out, ← htb]
        have HQT := Lib.hid hqt
        clear hqt htb
        have hso := seenOf_is HB5.out HD5.out.len
        cases sb with
        | true =>
          go_wp2_with fail
          go_roundw
          case rel => exact ⟨T', seen, _, _, rfl, HO6.out, HB5.out, HD5.out.skip (.inl (by rw [Int.toNat_natCast]; exact HSB.out)), HG5.out, by have := HM5.out; simp at this; omega⟩
          case measure => simp [lenV]
        | false =>
          go_wp2_with fail
          refine hta.mono ?_
          rintro e w7 ⟨rfl, hg7⟩
          have HB7 := Lib.hid (HB5.out.kept hg7)
          have HO7 := Lib.hid (HO6.out.none_ hg7)
          have HG7 := Lib.hid (only_trans HG5.out hg7)
          have hs7 := seenOf_is HB7.out HD5.out.len
          have f0 := HB7.out.frozen tn
          have s7 : w7.cell? ⟨gs, tn, none⟩ = some (.bool false) := by rw [HB7.out.cell tn, bsV_at HSB.out]
          clear hta hg7 m0 s0
          cases tb with
          | true =>
            go_wp2_with fail
            go_roundw
            case rel => exact ⟨T', seen, _, _, rfl, HO7.out, HB7.out, HD5.out.skip (.inr (by rw [Int.toNat_natCast]; exact HQT.out)), HG7.out, by have := HM5.out; simp at this; omega⟩
            case measure => rw [hs7, hso]; simp [lenV]
          | false =>
            have hgne : g ≠ gs := by omega
            have hg8 : w7.grownBy (w7.setCell ⟨gs, tn, none⟩ (.bool true)) (some gs) := only_setCell (p := ⟨gs, tn, none⟩) (only_refl _ _) rfl _
            have hb8 : Blk (w7.setCell ⟨gs, tn, none⟩ (.bool true)) gs 4 (bsV (seen.set tn true)) := by rw [← bsV_set]; exact HB7.out.set_ tn _
            have HB8 := Lib.hid hb8
            have HG8 := Lib.hid (only_new HG7.out hg8 HS1.out)
            have HO8 : Hid (BOwn (gs + 1) (w7.setCell ⟨gs, tn, none⟩ (.bool true)) (.slice (some ⟨g, 0, none⟩) T'.length c5) T') := HO7.out.kept hg8 (.inr (by intro e; simp [Value.ownBlock] at e; exact hgne e))
            clear hg8 hb8 hs7
            go_wp2_with fail
            generalize w7.setCell ⟨gs, tn, none⟩ (.bool true) = W8 at *
            refine (bgoes_is (i := tn) (HC.out.kept HG8.out) HL.out).mono ?_
            rintro e w9 ⟨v9, rfl, ho9, hg9⟩
            have HO9 := Lib.hid (HO8.out.none_ hg9)
            have HB9 := Lib.hid (HB8.out.kept hg9)
            have HG9 := Lib.hid (only_trans HG8.out hg9)
            have HR9 := Lib.hid ho9.reads
            obtain ⟨A9, c9, rfl, _⟩ := ho9.reads
            have hgl := goesN_len HL.out tn
            have HGL := Lib.hid hgl
            have hsz9 : gs + 1 ≤ w9.heap.size := Nat.le_trans hgb (Nat.le_of_lt (World.ownsRow.lt HO9.out g rfl).2)
            have HSZ := Lib.hid hsz9
            clear ho9 hg9 hgl hsz9
            generalize hGT : goesN cs tn = GT at *
            have HGT := Lib.hid hGT
            clear hGT
            have hne2 : ∀ n c : _, some gs ≠ (Value.slice (some ⟨g, 0, none⟩) n c).ownBlock := fun n c e => by
              have e2 : some gs = some g := e
              injection e2 with e2
              exact hgne e2.symm
            have hgw : w.heap.size ≤ g := by have := HS1.out; omega
            go_wp2_with (at_builtin; go_loud (refine wpList_append_zs (base := gs + 1) rfl _ _ rfl rfl rfl HO9.out HR9.out (by have := HGL.out; omega) HSZ.out ?_); intro v' w10 ho10 hg10; have HO10 := Lib.hid ho10; have HG10' := Lib.hid hg10; clear ho10 hg10)
            have HB10 := Lib.hid (HB9.out.grown HG10'.out (hne2 _ _))
            have hg10 : w.grownBy w10 none := only_new (g := g) HG9.out HG10'.out hgw
            have HG10 := Lib.hid hg10
            have hld : (seen.set tn true).length = cs.length := by rw [List.length_set]; exact HD5.out.len
            have hst := left_step (cs := cs) (k := tn) hlt HD5.out.len (by rw [HSB.out]; simp)
            rw [HGT.out] at hst
            have hdf := HD5.out.step HJ.out (by have := HNE.out; omega) (by rw [Int.toNat_natCast]; exact HQT.out)
            rw [Int.toNat_natCast, HGT.out] at hdf
            have hs10 := seenOf_is HB10.out hld
            have HDF := Lib.hid hdf
            have HLD := Lib.hid hld
            clear hdf hg10 hld
            obtain ⟨A10, c10, rfl, _⟩ := HO10.out.reads
            go_wp2_with fail
            go_roundw
            case rel => exact ⟨T' ++ GT, seen.set tn true, _, _, rfl, HO10.out, HB10.out, HDF.out, HG10.out, by have := HM5.out; simp at this ⊢; omega⟩
            case measure => rw [hs10, hso]; simp [lenV]; omega
end Go.Proofs.Ytgdoklbcmgkllaa

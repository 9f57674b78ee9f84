/- Texts joined for the claim's sake: IRrA, IRrL, IRrO. -/
import Derived.Test.YtmbdaenjeeklfaaDoorZInU
import Derived.Test.YtmbdaenjeeklfaaDoorZInD
import Derived.LoopTactic
import Derived.Test.YtmbdaenjeeklfaaDoorZIbH
/- The document's answer for numbers (colloquyref02's U, S, Small), as they are read plainly. -/
namespace Go.Proofs.YtmbdaenjeeklfaaDoor
open Go.RowKit

/-- What a call of the document's reader answers: a value and no fault, or a fault; and where it is then. -/
def RSay {α : Type} (mk : α → Value) (z : Value) (q : Nat) (bs : List UInt8) (r : Rs α) (w : World) (e : Ending) (w' : World) : Prop := match r with
  | .ok v b => RefSays (mk v) 0 0 q bs b 0 w e w'
  | .flt c y b => RefSays z c (y : Int) q bs b 0 w e w'
theorem ref_le {w : World} {q a bg : Nat} {bs : List UInt8} (h : RefR w q bs a bg) : a ≤ bs.length := by obtain ⟨_, _, _, h1, _⟩ := h; exact h1
theorem ru_is {w : World} {q a : Nat} {bs : List UInt8} (h : RefR w q bs a 0) : Calls Tryd.prog 80 #[.pointer (some ⟨q, 0, none⟩)] w (RSay (fun n : Nat => .int .u64 (n : Int)) (.int .u64 0) q bs (uR bs a) w) := by
  cases hk : tk 10 (bs.drop a) with
  | none =>
    have hs := tk_short hk
    rw [uR_short hs]
    have := ru_ends h hs (ref_le h)
    refine this.mono ?_
    rintro e w' ⟨rfl, hg, hr⟩
    exact ⟨by rw [cast0], hg, hr⟩
  | some k =>
    have ht := tk_taken hk
    by_cases hb : Bad ((bs.drop a).take k)
    · rw [uR_bad ht hb]
      refine (ru_taken h k ht true (by simpa using hb)).mono ?_
      rintro e w' ⟨he, hg, hr⟩
      rcases he with ⟨_, rfl⟩ | ⟨h1, _⟩
      · exact ⟨by rw [cast0], hg, hr⟩
      · cases h1
    · rw [uR_ok ht hb]
      refine (ru_taken h k ht false (by simpa using hb)).mono ?_
      rintro e w' ⟨he, hg, hr⟩
      rcases he with ⟨h1, _⟩ | ⟨_, rfl⟩
      · cases h1
      · exact ⟨rfl, hg, hr⟩
theorem rs_is {w : World} {q a : Nat} {bs : List UInt8} (h : RefR w q bs a 0) : Calls Tryd.prog 64 #[.pointer (some ⟨q, 0, none⟩)] w (RSay zV (.int .i64 0) q bs (sR bs a) w) := by
  cases hu : uR bs a with
  | flt c y b =>
    have hc : (c == 0) = false := by simpa using uR_flt c y b hu
    rw [sR, hu, Rs.bind_flt]
    exact rs_fault h c (y : Int) hc (fun W hW => by have := ru_is hW; rw [hu] at this; exact this)
  | ok n b =>
    rw [sR, hu, Rs.bind_ok]
    exact rs_ok h n (uR_is hu).1 (fun W hW => by have := ru_is hW; rw [hu] at this; exact this)
theorem rsm_is {w : World} {q a : Nat} {bs : List UInt8} (h : RefR w q bs a 0) (most : Int) (hw : Whole most) : Calls Tryd.prog 65 #[.pointer (some ⟨q, 0, none⟩), .int .i64 most] w (RSay zV (.int .i64 0) q bs (smR bs a most) w) := by
  cases hu : uR bs a with
  | flt c y b =>
    have hc : (c == 0) = false := by simpa using uR_flt c y b hu
    rw [smR, hu, Rs.bind_flt]
    exact rsmall_fault h most c (y : Int) hc (fun W hW => by have := ru_is hW; rw [hu] at this; exact this)
  | ok n b =>
    rw [smR, hu, Rs.bind_ok]
    by_cases hm : (n : Int) ≤ most
    · rw [if_pos hm]
      exact rsmall_ok h most n hw hm (fun W hW => by have := ru_is hW; rw [hu] at this; exact this)
    · rw [if_neg hm]
      have := rsmall_long h most n (uR_is hu).1 hw (by omega) (fun W hW => by have := ru_is hW; rw [hu] at this; exact this)
      rw [cast0] at this
      exact this
end Go.Proofs.YtmbdaenjeeklfaaDoor

/- The document's answer for instructions (colloquyref09): list, counted: what each answers, and what it leaves. -/
namespace Go.Proofs.YtmbdaenjeeklfaaDoor
open Go.RowKit

theorem int_infoL : (Tryd.prog.info? 3).map (fun i => (i.zero, i.size, i.bytes)) = some (some (.int .i64 0), 1, 8) := by kernel_rfl
/-- What stands where the document reads a list. -/
structure LI (w : World) (q : Nat) (bs : List UInt8) (b : Nat) (vp : Value) (L : List Int) (wr : World) : Prop where
  ref : RefR wr q bs b 0
  step : w.grownBy wr (some q)
  own : wr.ownsRow w.heap.size 3 1 vp L.length (L.map zV)
  res : Blk wr w.heap.size 48 #[.int .i64 0, .int .i64 0]
section
variable {w wr w1 : World} {q b b' : Nat} {bs : List UInt8} {vp : Value} {L : List Int}
theorem LI.none_ (h : LI w q bs b vp L wr) (hg : wr.grownBy w1 none) : LI w q bs b vp L w1 :=
  ⟨h.ref.kept hg (fun e => by cases e), only_trans h.step (only_weak hg _), h.own.kept hg (by cases hv : vp.ownBlock <;> simp), h.res.kept hg⟩
theorem LI.move (h : LI w q bs b vp L wr) (hql : q < w.heap.size) (hg : wr.grownBy w1 (some q)) (hr : RefR w1 q bs b' 0) : LI w q bs b' vp L w1 := by
  obtain ⟨cs, hb⟩ := h.ref.blk
  exact ⟨hr, only_trans h.step hg, h.own.kept hg (.inr (own_ne h.own hb (by decide))), h.res.grown hg (fun e => by injection e with e; omega)⟩
theorem LI.appended {vp' : Value} {z : Int} (h : LI w q bs b vp L wr) (hql : q < w.heap.size) (hg : wr.grownBy w1 vp.ownBlock) (ho : w1.ownsRow w.heap.size 3 1 vp' (L.length + 1) (L.map zV ++ [zV z])) : LI w q bs b vp' (L ++ [z]) w1 := by
  have hlow : ∀ k, vp.ownBlock = some k → w.heap.size ≤ k := fun k hk => (h.own.lt k hk).1
  refine ⟨h.ref.kept hg (fun e => by have := hlow q e.symm; omega), ?_, by rw [List.length_append, List.map_append]; exact ho, h.res.grown hg (fun e => own_ne h.own h.res (by decide) e.symm)⟩
  cases hb : vp.ownBlock with
  | none => rw [hb] at hg; exact only_trans h.step (only_weak hg _)
  | some k => rw [hb] at hg; exact only_new' h.step hg (hlow k hb)
theorem LI.ints (h : LI w q bs b vp L wr) : IntsA (fun k => w.heap.size < k) wr vp L := by
  rcases h.own.2 with ⟨rfl, he⟩ | ⟨g, cap, cur, rfl, hb, hh, hc⟩
  · have h0 : L = [] := by simpa using he
    subst h0
    exact ⟨none, 0, rfl, fun e => absurd rfl e⟩
  · refine ⟨_, cap, rfl, fun _ => ⟨g, 0, rfl, Nat.lt_of_le_of_ne hb (fun e => own_ne h.own h.res (by decide) (by rw [e]; rfl)), fun i z hz => ?_⟩⟩
    have := h.own.cells (g := g) rfl i (zV z) (by rw [List.getElem?_map, hz]; rfl)
    have e : ((⟨g, 0, none⟩ : Addr).add i) = ⟨g, 0 + i, none⟩ := by unfold Addr.add; split <;> simp_all
    rwa [e] at this
end
def RList (q : Nat) (bs : List UInt8) (r : Rs (List Int)) (w : World) (e : Ending) (w' : World) : Prop := match r with
  | .ok l b => ∃ v, e = .returned (.tuple #[v, .agg #[.int .i64 0, .int .i64 0]]) ∧ IntsA (fun k => w.heap.size < k) w' v l ∧ w.grownBy w' (some q) ∧ RefR w' q bs b 0
  | .flt c y b => RefSays (.slice none 0 0) c (y : Int) q bs b 0 w e w'
theorem setF_end {w wr : World} {row : Option Nat} (hg : w.grownBy wr row) (hb : Blk wr w.heap.size 48 #[.int .i64 0, .int .i64 0]) :
    (setF wr w.heap.size 0 0).cell? ⟨w.heap.size, 0, none⟩ = some (.int .i64 0) ∧ (setF wr w.heap.size 0 0).cell? ⟨w.heap.size, 1, none⟩ = some (.int .i64 0) ∧ w.grownBy (setF wr w.heap.size 0 0) row ∧
    (∀ q bs a bg, RefR wr q bs a bg → q < w.heap.size → RefR (setF wr w.heap.size 0 0) q bs a bg) := by
  have hF := setF_blk hb rfl 0 0
  have hs : wr.grownBy (setF wr w.heap.size 0 0) (some w.heap.size) := only_setCell (only_setCell (only_refl wr (some w.heap.size)) (p := ⟨w.heap.size, 0, none⟩) rfl (.int .i64 0)) (p := ⟨w.heap.size, 1, none⟩) rfl (.int .i64 0)
  exact ⟨hF.cell 0, hF.cell 1, setF_only hg (Nat.le_refl _) 0 0, fun q bs a bg h hq => h.kept hs (fun e => by injection e with e; omega)⟩
theorem setF_end2 {w wr : World} {row : Option Nat} (hg : w.grownBy wr row) (hb : Blk wr w.heap.size 48 #[.int .i64 0, .int .i64 0]) (c x : Int) :
    (setF wr w.heap.size c x).cell? ⟨w.heap.size, 0, none⟩ = some (.int .i64 c) ∧ (setF wr w.heap.size c x).cell? ⟨w.heap.size, 1, none⟩ = some (.int .i64 x) ∧ w.grownBy (setF wr w.heap.size c x) row ∧
    (∀ q bs a bg, RefR wr q bs a bg → q < w.heap.size → RefR (setF wr w.heap.size c x) q bs a bg) := by
  have hF := setF_blk hb rfl c x
  have hs : wr.grownBy (setF wr w.heap.size c x) (some w.heap.size) := only_setCell (only_setCell (only_refl wr (some w.heap.size)) (p := ⟨w.heap.size, 0, none⟩) rfl (.int .i64 c)) (p := ⟨w.heap.size, 1, none⟩) rfl (.int .i64 x)
  exact ⟨hF.cell 0, hF.cell 1, setF_only hg (Nat.le_refl _) c x, fun q bs a bg h hq => h.kept hs (fun e => by injection e with e; omega)⟩
theorem setF_ints {S : Nat → Prop} {w wr : World} {v : Value} {zs : List Int} (h : IntsA S wr v zs) (hS : ∀ b, S b → b ≠ w.heap.size) : IntsA S (setF wr w.heap.size 0 0) v zs := by
  have hs : wr.grownBy (setF wr w.heap.size 0 0) (some w.heap.size) := only_setCell (only_setCell (only_refl wr (some w.heap.size)) (p := ⟨w.heap.size, 0, none⟩) rfl (.int .i64 0)) (p := ⟨w.heap.size, 1, none⟩) rfl (.int .i64 0)
  exact h.row hs (fun b hb e => hS b hb (by injection e))
theorem rdE_next {most : Int} {bs : List UInt8} {m b : Nat} {L : List Int} : ((rdE most bs (m + 1) b).bind fun l c => (.ok (L ++ l) c : Rs (List Int))) = (smR bs b most).bind fun v c => (rdE most bs m c).bind fun l d => .ok ((L ++ [v]) ++ l) d := by
  rw [rdE]
  cases smR bs b most with
  | flt c y d => rfl
  | ok v d =>
    simp only [Rs.bind_ok]
    cases rdE most bs m d with
    | flt c y e => rfl
    | ok l e => simp [Rs.bind_ok]
set_option maxRecDepth 100000 in
set_option maxHeartbeats 4000000 in
theorem rlist_any {w : World} {q a : Nat} {bs : List UInt8} (h : RefR w q bs a 0) (n : Nat) (hn : n ≤ 12) (most : Int) (hw : Whole most) :
    Calls Tryd.prog 66 #[.pointer (some ⟨q, 0, none⟩), .int .i64 (n : Int), .int .i64 most] w (RList q bs (rdE most bs n a) w) := by
  have hql := h.lt
  have h0 : w.grownBy (w.alloc (.cells #[.int .i64 0, .int .i64 0] 48)) none := only_alloc (only_refl _ _) _
  have S0 : LI w q bs a (.slice none 0 0) [] (w.alloc (.cells #[.int .i64 0, .int .i64 0] 48)) := ⟨h.kept h0 (fun e => by cases e), only_weak h0 _, World.ownsRow_nil _ _ _ _, Blk.new _ _ _⟩
  obtain ⟨res, hres⟩ : ∃ res, rdE most bs n a = res := ⟨_, rfl⟩
  have HRes : Hid (res = (rdE most bs (n - 0) a).bind fun l c => .ok ([] ++ l) c) := by
    show _ = _
    rw [← hres, Nat.sub_zero]
    cases rdE most bs n a with
    | flt c y e => rfl
    | ok l e => rfl
  rw [hres]
  obtain ⟨ti, hi, hz0, hz1, hz2⟩ := info_parts int_infoL
  clear h h0 hres
  go_enter Tryd.func66, Tryd.ntmps66
  go_wp2_with fail
  go_loopw [8, 9] (fun vp vi wr => ∃ (k b : Nat) (L : List Int), vi = .int .i64 (k : Int) ∧ k ≤ n ∧ L.length = k ∧ (res = (rdE most bs (n - k) b).bind fun l c => .ok (L ++ l) c) ∧ LI w q bs b vp L wr) (fun _ vi _ => n - (intOf vi).toNat)
  case atStart => exact ⟨0, a, [], rfl, by omega, rfl, HRes.out, S0⟩
  case round =>
    obtain ⟨k, b, L, rfl, hk, hL, hrs, S⟩ := hrel
    clear S0 HRes
    by_cases hlt : k < n
    · have i0 : (0 : Int) ≤ (k : Int) := by omega
      have i1 : (k : Int) < (n : Int) := by omega
      have i2 : (n : Int) ≤ 12 := by omega
      rw [show n - k = (n - (k + 1)) + 1 by omega, rdE_next] at hrs
      have hsm := rsm_is S.ref most hw
      have HS := Lib.hid S
      have HL := Lib.hid hL
      have HLT := Lib.hid hlt
      clear S hL hlt
      cases hr : smR bs b most with
      | flt c y b' =>
        rw [hr] at hsm hrs
        rw [Rs.bind_flt] at hrs
        have hc : (c == 0) = false := by simpa using smR_flt c y b' hr
        have HR := Lib.hid hrs
        clear hr hrs
        go_wp2_with fail
        refine hsm.mono ?_
        rintro e w2 ⟨rfl, hg2, hr2⟩
        have S2 := HS.out.move hql hg2 hr2
        have HS2 := Lib.hid S2
        have g0 : w2.cell? ⟨w.heap.size, 0, none⟩ = some (.int .i64 0) := S2.res.cell 0
        have g1 : w2.cell? ⟨w.heap.size, 1, none⟩ = some (.int .i64 0) := S2.res.cell 1
        have f0 := S2.res.frozen 0
        have f1 := S2.res.frozen 1
        have hz := S2.res.lt
        clear hsm hg2 hr2 S2
        go_wp2_with fail
        go_region
        all_goals go_wp2
        obtain ⟨e0, e1, e2, e3⟩ := res_end HS2.out.step HS2.out.res rfl c (y : Int) (.cells #[.int .i64 c, .int .i64 (y : Int)] 48)
        have e4 := e3 _ _ _ _ HS2.out.ref hql
        unfold setF at e0 e1 e2 e4
        exact bodyPost_ret (v := .tuple #[.slice none 0 0, .agg #[.int .i64 c, .int .i64 (y : Int)]]) (by simp [results, Tryd.results66, go_sem, e0, e1]) rfl (by rw [HR.out]; exact ⟨rfl, e2, e4⟩)
      | ok v b' =>
        rw [hr] at hsm hrs
        rw [Rs.bind_ok] at hrs
        have HR := Lib.hid hrs
        clear hr hrs
        go_wp2_with fail
        refine hsm.mono ?_
        rintro e w2 ⟨he, hg2, hr2⟩
        have he' : e = .returned (.tuple #[.int .i64 v, .agg #[.int .i64 0, .int .i64 0]]) := he
        subst he'
        clear he
        have S2 := (HS.out.move hql hg2 hr2).none_ (only_alloc (only_refl w2 none) (.cells #[.int .i64 0, .int .i64 0] 48))
        have S3 := S2.none_ (only_alloc (only_refl (w2.alloc (.cells #[.int .i64 0, .int .i64 0] 48)) none) (.cells #[.int .i64 v] 3))
        have HS3 := Lib.hid S3
        have hbn : Blk ((w2.alloc (.cells #[.int .i64 0, .int .i64 0] 48)).alloc (.cells #[.int .i64 v] 3)) (w2.heap.size + 1) 3 #[.int .i64 v] := by
          have := Blk.new (w2.alloc (.cells #[.int .i64 0, .int .i64 0] 48)) 3 #[.int .i64 v]
          simpa using this
        have hn1 : ∀ j x, [Value.int .i64 v][j]? = some x → ((w2.alloc (.cells #[.int .i64 0, .int .i64 0] 48)).alloc (.cells #[.int .i64 v] 3)).cell? ((⟨w2.heap.size + 1, 0, none⟩ : Addr).add j) = some x := fun j x hx => by
          have e : ((⟨w2.heap.size + 1, 0, none⟩ : Addr).add j) = ⟨w2.heap.size + 1, 0 + j, none⟩ := by unfold Addr.add; split <;> simp_all
          rw [e, Nat.zero_add, hbn.cell j, ← hx]
          simp
        have H3 : Hid (L.length + 1 ≤ maxLen) := by unfold maxLen; show _ ≤ _; have := HL.out; omega
        have H4 : Hid ((L.length + 1) * 8 ≤ 140737488355328) := by show _ ≤ _; have := HL.out; omega
        have hB : w.heap.size ≤ ((w2.alloc (.cells #[.int .i64 0, .int .i64 0] 48)).alloc (.cells #[.int .i64 v] 3)).heap.size := HS3.out.step.size
        have HN1 := Lib.hid hn1
        have HBz := Lib.hid hB
        clear hsm hg2 hr2 S2 S3 hn1 hB hbn
        go_wp2_with (at_builtin; go_loud (refine wpList_append_own _ rfl _ _ 22 rfl w.heap.size 3 ti (.int .i64 0) 1 8 Tryd.underlying22 hi hz0 hz1 hz2 rfl (by decide) _ _ _ rfl HS3.out.own ⟨_, 0, none⟩ 1 1 [.int .i64 v] rfl rfl HN1.out (by simp [Value.oneCell']) H3.out H4.out HBz.out ?_); intro v' w3 ho hg hx; clear hx; have S4 := HS3.out.appended hql hg ho; clear ho hg)
        go_roundw
        case rel => exact ⟨k + 1, b', L ++ [v], by go_num, by have := HLT.out; omega, by have := HL.out; simp; omega, HR.out, S4⟩
        case measure => have := HLT.out; simp [intOf]; omega
    · have hkn : k = n := by omega
      subst hkn
      rw [Nat.sub_self, rdE, Rs.bind_ok, List.append_nil] at hrs
      have HR := Lib.hid hrs
      have HS := Lib.hid S
      obtain ⟨A8, c8, h8⟩ := own_shape S.own
      subst h8
      have i1 : ¬ ((k : Int) < (k : Int)) := by omega
      have g0 : wr.cell? ⟨w.heap.size, 0, none⟩ = some (.int .i64 0) := S.res.cell 0
      have g1 : wr.cell? ⟨w.heap.size, 1, none⟩ = some (.int .i64 0) := S.res.cell 1
      have f0 := S.res.frozen 0
      have f1 := S.res.frozen 1
      clear hrs S hlt hk
      go_wp2_with fail
      obtain ⟨e0, e1, e2, e3⟩ := setF_end HS.out.step HS.out.res
      have e4 := e3 _ _ _ _ HS.out.ref hql
      have e5 := setF_ints (w := w) HS.out.ints (fun b hb => by omega)
      unfold setF at e0 e1 e2 e4 e5
      exact bodyPost_ret (v := .tuple #[.slice A8 L.length c8, .agg #[.int .i64 0, .int .i64 0]]) (by simp [results, Tryd.results66, go_sem, e0, e1, hL]) rfl (by rw [HR.out]; exact ⟨_, rfl, e5, e2, e4⟩)
set_option maxRecDepth 100000 in
set_option maxHeartbeats 4000000 in
theorem rcounted_any {w : World} {q a : Nat} {bs : List UInt8} (h : RefR w q bs a 0) (many most : Int) (hm0 : 0 ≤ many) (hm : many ≤ 12) (hw : Whole most) :
    Calls Tryd.prog 67 #[.pointer (some ⟨q, 0, none⟩), .int .i64 many, .int .i64 most] w (RList q bs ((smR bs a many).bind fun v b => rdE most bs v.toNat b) w) := by
  have hql := h.lt
  have h0 : w.grownBy (w.alloc (.cells #[.int .i64 0, .int .i64 0] 48)) none := only_alloc (only_refl _ _) _
  have hb0 := Blk.new w 48 #[.int .i64 0, .int .i64 0]
  have hsm := rsm_is (h.kept h0 (fun e => by cases e)) many ⟨by omega, by omega⟩
  have H0 := Lib.hid h0
  have HB0 := Lib.hid hb0
  clear h h0 hb0
  cases hr : smR bs a many with
  | flt c y b' =>
    rw [hr] at hsm
    rw [Rs.bind_flt]
    have hc : (c == 0) = false := by simpa using smR_flt c y b' hr
    clear hr
    go_enter Tryd.func67, Tryd.ntmps67
    go_wp2_with fail
    refine hsm.mono ?_
    rintro e w2 ⟨rfl, hg2, hr2⟩
    obtain ⟨hg, hb⟩ := ref_mid hql hg2
    have g0 : w2.cell? ⟨w.heap.size, 0, none⟩ = some (.int .i64 0) := hb.cell 0
    have g1 : w2.cell? ⟨w.heap.size, 1, none⟩ = some (.int .i64 0) := hb.cell 1
    have f0 := hb.frozen 0
    have f1 := hb.frozen 1
    have hz := hb.lt
    have HG := Lib.hid hg
    have HB := Lib.hid hb
    have HR := Lib.hid hr2
    clear hsm hg2 hg hb hr2
    go_wp2_with fail
    go_region
    all_goals go_wp2
    obtain ⟨e0, e1, e2, e3⟩ := res_end HG.out HB.out rfl c (y : Int) (.cells #[.int .i64 c, .int .i64 (y : Int)] 48)
    have e4 := e3 _ _ _ _ HR.out hql
    unfold setF at e0 e1 e2 e4
    exact bodyPost_ret (v := .tuple #[.slice none 0 0, .agg #[.int .i64 c, .int .i64 (y : Int)]]) (by simp [results, Tryd.results67, go_sem, e0, e1]) rfl ⟨rfl, e2, e4⟩
  | ok v b' =>
    rw [hr] at hsm
    rw [Rs.bind_ok]
    obtain ⟨v0, v1, _, _, _⟩ := smR_is hr
    have hv12 : v.toNat ≤ 12 := by omega
    have hvn : ((v.toNat : Nat) : Int) = v := by omega
    have HLi : Hid (∀ W, RefR W q bs b' 0 → Calls Tryd.prog 66 #[.pointer (some ⟨q, 0, none⟩), .int .i64 v, .int .i64 most] W (RList q bs (rdE most bs v.toNat b') W)) := fun W hW => by
      have := rlist_any hW v.toNat hv12 most hw
      rwa [hvn] at this
    clear hr hvn hv12
    go_enter Tryd.func67, Tryd.ntmps67
    go_wp2_with fail
    refine hsm.mono ?_
    rintro e w2 ⟨he, hg2, hr2⟩
    have he' : e = .returned (.tuple #[.int .i64 v, .agg #[.int .i64 0, .int .i64 0]]) := he
    subst he'
    clear he
    obtain ⟨hg, hb⟩ := ref_mid hql hg2
    have ha3 := only_alloc (only_refl w2 none) (.cells #[.int .i64 0, .int .i64 0] 48)
    have HG := Lib.hid (only_trans hg (only_weak ha3 _))
    have HB := Lib.hid (hb.kept ha3)
    have HR := Lib.hid (hr2.kept ha3 (fun e => by cases e))
    clear hsm hg2 hg hb hr2 ha3
    cases hre : rdE most bs v.toNat b' with
    | flt c y b2 =>
      rw [hre] at HLi
      have HRE := Lib.hid hre
      clear hre
      go_wp2_with fail
      refine (HLi.out _ HR.out).mono ?_
      rintro e w4 ⟨rfl, hg4, hr4⟩
      have HG4 := Lib.hid (only_trans HG.out hg4)
      have hb4 := HB.out.grown hg4 (fun e => by injection e with e; omega)
      have g0 : w4.cell? ⟨w.heap.size, 0, none⟩ = some (.int .i64 0) := hb4.cell 0
      have g1 : w4.cell? ⟨w.heap.size, 1, none⟩ = some (.int .i64 0) := hb4.cell 1
      have f0 := hb4.frozen 0
      have f1 := hb4.frozen 1
      have HR4 := Lib.hid hr4
      have HB4 := Lib.hid hb4
      clear hg4 hb4 hr4
      go_wp2_with fail
      obtain ⟨e0, e1, e2, e3⟩ := setF_end2 HG4.out HB4.out c (y : Int)
      have e4 := e3 _ _ _ _ HR4.out hql
      unfold setF at e0 e1 e2 e4
      exact bodyPost_ret (v := .tuple #[.slice none 0 0, .agg #[.int .i64 c, .int .i64 (y : Int)]]) (by simp [results, Tryd.results67, go_sem, e0, e1]) rfl (by rw [HRE.out]; exact ⟨rfl, e2, e4⟩)
    | ok l b2 =>
      rw [hre] at HLi
      have HRE := Lib.hid hre
      clear hre
      go_wp2_with fail
      refine (HLi.out _ HR.out).mono ?_
      rintro e w4 ⟨vl, rfl, hl4, hg4, hr4⟩
      have HG4 := Lib.hid (only_trans HG.out hg4)
      have hb4 := HB.out.grown hg4 (fun e => by injection e with e; omega)
      have g0 : w4.cell? ⟨w.heap.size, 0, none⟩ = some (.int .i64 0) := hb4.cell 0
      have g1 : w4.cell? ⟨w.heap.size, 1, none⟩ = some (.int .i64 0) := hb4.cell 1
      have f0 := hb4.frozen 0
      have f1 := hb4.frozen 1
      have HR4 := Lib.hid hr4
      have HB4 := Lib.hid hb4
      have hL4 : IntsA (fun k => w.heap.size < k) w4 vl l := by
        obtain ⟨A, cc, k1, k2⟩ := hl4
        refine ⟨A, cc, k1, fun hn => ?_⟩
        obtain ⟨b, off, k3, k4, k5⟩ := k2 hn
        have k4 : (w2.alloc (.cells #[.int .i64 0, .int .i64 0] 48)).heap.size < b := k4
        have := HB.out.lt
        exact ⟨b, off, k3, by show w.heap.size < b; omega, k5⟩
      have HL4 := Lib.hid hL4
      clear hg4 hb4 hr4 hl4 hL4
      go_wp2_with fail
      obtain ⟨e0, e1, e2, e3⟩ := setF_end2 HG4.out HB4.out 0 0
      have e4 := e3 _ _ _ _ HR4.out hql
      have e5 := setF_ints (w := w) HL4.out (fun b hb => by omega)
      unfold setF at e0 e1 e2 e4 e5
      exact bodyPost_ret (v := .tuple #[vl, .agg #[.int .i64 0, .int .i64 0]]) (by simp [results, Tryd.results67, go_sem, e0, e1]) rfl (by rw [HRE.out]; exact ⟨vl, rfl, e5, e2, e4⟩)
end Go.Proofs.YtmbdaenjeeklfaaDoor

/- The document's answer for instructions (colloquyref09): operands: what stands as they are read. -/
namespace Go.Proofs.YtmbdaenjeeklfaaDoor
open Go.RowKit

def zO : Array Value := #[.int .i64 0, .int .i64 0, .int .i64 0, .int .i64 0, .int .i64 0, .slice none 0 0]
/-- What stands as the document reads operands: two boxes for the results, two for what is read. -/
structure OS (w : World) (q : Nat) (bs : List UInt8) (b : Nat) (cs : Array Value) (cd y : Int) (W : World) : Prop where
  r4 : Blk W w.heap.size 24 zO
  r5 : Blk W (w.heap.size + 1) 48 #[.int .i64 0, .int .i64 0]
  r6 : Blk W (w.heap.size + 1 + 1) 24 cs
  r7 : Blk W (w.heap.size + 1 + 1 + 1) 48 #[.int .i64 cd, .int .i64 y]
  st : w.grownBy W (some q)
  rd : RefR W q bs b 0
section
variable {w W W' : World} {q b b' : Nat} {bs : List UInt8} {cs : Array Value} {cd y : Int}
theorem OS.none_ (h : OS w q bs b cs cd y W) (hg : W.grownBy W' none) : OS w q bs b cs cd y W' := ⟨h.r4.kept hg, h.r5.kept hg, h.r6.kept hg, h.r7.kept hg, only_trans h.st (only_weak hg _), h.rd.kept hg (fun e => by cases e)⟩
theorem OS.call (h : OS w q bs b cs cd y W) (hql : q < w.heap.size) (hg : W.grownBy W' (some q)) (hr : RefR W' q bs b' 0) : OS w q bs b' cs cd y W' :=
  ⟨h.r4.grown hg (fun e => by injection e with e; omega), h.r5.grown hg (fun e => by injection e with e; omega), h.r6.grown hg (fun e => by injection e with e; omega), h.r7.grown hg (fun e => by injection e with e; omega), only_trans h.st hg, hr⟩
theorem OS.fld (h : OS w q bs b cs cd y W) (hql : q < w.heap.size) (k : Nat) (v : Value) : OS w q bs b (cs.setIfInBounds k v) cd y (W.setCell ⟨w.heap.size + 1 + 1, k, none⟩ v) := by
  have hg : W.grownBy (W.setCell ⟨w.heap.size + 1 + 1, k, none⟩ v) (some (w.heap.size + 1 + 1)) := only_setCell (p := ⟨w.heap.size + 1 + 1, k, none⟩) (only_refl _ _) rfl v
  exact ⟨h.r4.grown hg (fun e => by injection e with e; omega), h.r5.grown hg (fun e => by injection e with e; omega), h.r6.set_ k v, h.r7.grown hg (fun e => by injection e with e; omega), only_new' h.st hg (by omega), h.rd.kept hg (fun e => by injection e with e; omega)⟩
theorem OS.flt (h : OS w q bs b cs cd y W) (hql : q < w.heap.size) (c x : Int) : OS w q bs b cs c x ((W.setCell ⟨w.heap.size + 1 + 1 + 1, 0, none⟩ (.int .i64 c)).setCell ⟨w.heap.size + 1 + 1 + 1, 1, none⟩ (.int .i64 x)) := by
  have hg : W.grownBy ((W.setCell ⟨w.heap.size + 1 + 1 + 1, 0, none⟩ (.int .i64 c)).setCell ⟨w.heap.size + 1 + 1 + 1, 1, none⟩ (.int .i64 x)) (some (w.heap.size + 1 + 1 + 1)) := only_setCell (p := ⟨w.heap.size + 1 + 1 + 1, 1, none⟩) (only_setCell (p := ⟨w.heap.size + 1 + 1 + 1, 0, none⟩) (only_refl _ _) rfl _) rfl _
  exact ⟨h.r4.grown hg (fun e => by injection e with e; omega), h.r5.grown hg (fun e => by injection e with e; omega), h.r6.grown hg (fun e => by injection e with e; omega), (h.r7.set_ 0 _).set_ 1 _, only_new' h.st hg (by omega), h.rd.kept hg (fun e => by injection e with e; omega)⟩
theorem OS.start (h : RefR w q bs b 0) (op : Int) : OS w q bs b #[.int .i64 op, .int .i64 0, .int .i64 0, .int .i64 0, .int .i64 0, .slice none 0 0] 0 0
    ((((w.alloc (.cells zO 24)).alloc (.cells #[.int .i64 0, .int .i64 0] 48)).alloc (.cells #[.int .i64 op, .int .i64 0, .int .i64 0, .int .i64 0, .int .i64 0, .slice none 0 0] 24)).alloc (.cells #[.int .i64 0, .int .i64 0] 48)) := by
  have hg : w.grownBy ((((w.alloc (.cells zO 24)).alloc (.cells #[.int .i64 0, .int .i64 0] 48)).alloc (.cells #[.int .i64 op, .int .i64 0, .int .i64 0, .int .i64 0, .int .i64 0, .slice none 0 0] 24)).alloc (.cells #[.int .i64 0, .int .i64 0] 48)) none := only_alloc (only_alloc (only_alloc (only_alloc (only_refl _ _) _) _) _) _
  have at_ : ∀ {W : World} {g : Nat} (_ : g = W.heap.size) (t : TypeId) (cs : Array Value), Blk (W.alloc (.cells cs t)) g t cs := fun hg t cs => hg ▸ Blk.new _ t cs
  exact ⟨(((Blk.new w _ _).alloc _).alloc _).alloc _, ((at_ (by simp) _ _).alloc _).alloc _, (at_ (by simp) _ _).alloc _, at_ (by simp) _ _, only_weak hg _, h.kept hg (fun e => by cases e)⟩
/-- Behind the results' stores. -/
abbrev setI (W : World) (n : Nat) (c0 c1 c2 c3 c4 c5 : Value) (c x : Int) : World :=
  ((((((((W.setCell ⟨n, 0, none⟩ c0).setCell ⟨n, 1, none⟩ c1).setCell ⟨n, 2, none⟩ c2).setCell ⟨n, 3, none⟩ c3).setCell ⟨n, 4, none⟩ c4).setCell ⟨n, 5, none⟩ c5).setCell ⟨n + 1, 0, none⟩ (.int .i64 c)).setCell ⟨n + 1, 1, none⟩ (.int .i64 x)).drew
theorem OS.end_ (h : OS w q bs b cs cd y W) (hql : q < w.heap.size) (c0 c1 c2 c3 c4 c5 : Value) (c x : Int) :
    Blk (setI W w.heap.size c0 c1 c2 c3 c4 c5 c x) w.heap.size 24 #[c0, c1, c2, c3, c4, c5] ∧ Blk (setI W w.heap.size c0 c1 c2 c3 c4 c5 c x) (w.heap.size + 1) 48 #[.int .i64 c, .int .i64 x] ∧
    w.grownBy (setI W w.heap.size c0 c1 c2 c3 c4 c5 c x) (some q) ∧ RefR (setI W w.heap.size c0 c1 c2 c3 c4 c5 c x) q bs b 0 ∧
    (∀ v zs, IntsA (fun k => w.heap.size + 1 + 1 + 1 < k) W v zs → IntsA (fun k => w.heap.size < k) (setI W w.heap.size c0 c1 c2 c3 c4 c5 c x) v zs) := by
  have h4 := (((((h.r4.set_ 0 c0).set_ 1 c1).set_ 2 c2).set_ 3 c3).set_ 4 c4).set_ 5 c5
  have g4 : W.grownBy ((((((W.setCell ⟨w.heap.size, 0, none⟩ c0).setCell ⟨w.heap.size, 1, none⟩ c1).setCell ⟨w.heap.size, 2, none⟩ c2).setCell ⟨w.heap.size, 3, none⟩ c3).setCell ⟨w.heap.size, 4, none⟩ c4).setCell ⟨w.heap.size, 5, none⟩ c5) (some w.heap.size) :=
    only_setCell (p := ⟨w.heap.size, 5, none⟩) (only_setCell (p := ⟨w.heap.size, 4, none⟩) (only_setCell (p := ⟨w.heap.size, 3, none⟩) (only_setCell (p := ⟨w.heap.size, 2, none⟩) (only_setCell (p := ⟨w.heap.size, 1, none⟩) (only_setCell (p := ⟨w.heap.size, 0, none⟩) (only_refl _ _) rfl _) rfl _) rfl _) rfl _) rfl _) rfl _
  have h4' : Blk ((((((W.setCell ⟨w.heap.size, 0, none⟩ c0).setCell ⟨w.heap.size, 1, none⟩ c1).setCell ⟨w.heap.size, 2, none⟩ c2).setCell ⟨w.heap.size, 3, none⟩ c3).setCell ⟨w.heap.size, 4, none⟩ c4).setCell ⟨w.heap.size, 5, none⟩ c5) w.heap.size 24 #[c0, c1, c2, c3, c4, c5] := h4
  unfold setI
  generalize ((((((W.setCell ⟨w.heap.size, 0, none⟩ c0).setCell ⟨w.heap.size, 1, none⟩ c1).setCell ⟨w.heap.size, 2, none⟩ c2).setCell ⟨w.heap.size, 3, none⟩ c3).setCell ⟨w.heap.size, 4, none⟩ c4).setCell ⟨w.heap.size, 5, none⟩ c5) = Wa at g4 h4'
  have h5 := ((h.r5.grown g4 (fun e => by injection e with e; omega)).set_ 0 (.int .i64 c)).set_ 1 (.int .i64 x)
  have g5 : Wa.grownBy (((Wa.setCell ⟨w.heap.size + 1, 0, none⟩ (.int .i64 c)).setCell ⟨w.heap.size + 1, 1, none⟩ (.int .i64 x)).drew) (some (w.heap.size + 1)) := only_drew (only_setCell (p := ⟨w.heap.size + 1, 1, none⟩) (only_setCell (p := ⟨w.heap.size + 1, 0, none⟩) (only_refl _ _) rfl _) rfl _)
  refine ⟨h4'.grown g5 (fun e => by injection e with e; omega), h5.drew, only_new' (only_new' h.st g4 (Nat.le_refl _)) g5 (by omega), (h.rd.kept g4 (fun e => by injection e with e; omega)).kept g5 (fun e => by injection e with e; omega), fun v zs hI => ?_⟩
  have hI2 := hI.row g4 (fun b hb e => by injection e with e; have hb' : w.heap.size + 1 + 1 + 1 < b := hb; omega)
  have hI3 := hI2.row g5 (fun b hb e => by injection e with e; have hb' : w.heap.size + 1 + 1 + 1 < b := hb; omega)
  obtain ⟨A, cc, k1, k2⟩ := hI3
  refine ⟨A, cc, k1, fun hn => ?_⟩
  obtain ⟨b, off, k3, k4, k5⟩ := k2 hn
  have k4' : w.heap.size + 1 + 1 + 1 < b := k4
  exact ⟨b, off, k3, by show w.heap.size < b; omega, k5⟩
/-- A list that was read stays, whatever is stored into the boxes. -/
theorem ints_set {v : Value} {zs : List Int} (h : IntsA (fun k => w.heap.size + 1 + 1 + 1 < k) W v zs) (p : Addr) (u : Value) (hp : p.block ≤ w.heap.size + 1 + 1 + 1) : IntsA (fun k => w.heap.size + 1 + 1 + 1 < k) (W.setCell p u) v zs :=
  h.row (only_setCell (only_refl W (some p.block)) rfl u) (fun b hb e => by injection e with e; have hb' : w.heap.size + 1 + 1 + 1 < b := hb; omega)
end

/-! ### What operands come to, form by form -/
section
variable {op : Int} {bs : List UInt8} {a : Nat}
theorem opsR_plain : opsR .plain op bs a = .ok ⟨op, 0, 0, 0, 0, []⟩ a := rfl
theorem opsR_push : opsR .push op bs a = (sR bs a).bind fun v b => .ok ⟨op, v, 0, 0, 0, []⟩ b := rfl
theorem opsR_one : opsR .one op bs a = (smR bs a 15).bind fun v b => .ok ⟨op, 0, v, 0, 0, []⟩ b := rfl
theorem opsR_select : opsR .select op bs a = (smR bs a 15).bind fun v b => (smR bs b 7).bind fun u d => .ok ⟨op, 0, v, u, 0, []⟩ d := rfl
theorem opsR_two : opsR .two op bs a = (smR bs a 15).bind fun v b => (smR bs b 15).bind fun u d => .ok ⟨op, 0, v, u, 0, []⟩ d := rfl
theorem opsR_jump : opsR .jump op bs a = (rdE 127 bs 1 a).bind fun l b => .ok ⟨op, 0, 0, 0, 0, l⟩ b := rfl
theorem Rs.bind_assoc {α β γ : Type} (r : Rs α) (f : α → Nat → Rs β) (g : β → Nat → Rs γ) : (r.bind f).bind g = r.bind fun v b => (f v b).bind g := by cases r <;> rfl
theorem opsR_branch : opsR .branch op bs a = (smR bs a 15).bind fun v b => ((smR bs b 8).bind fun n c => rdE 127 bs n.toNat c).bind fun l d => .ok ⟨op, 0, v, 0, 0, l⟩ d := by
  have : opsR .branch op bs a = (smR bs a 15).bind fun v b => (smR bs b 8).bind fun n c => (rdE 127 bs n.toNat c).bind fun l d => .ok ⟨op, 0, v, 0, 0, l⟩ d := rfl
  rw [this]
  congr 1
  funext v b
  rw [Rs.bind_assoc]
theorem opsR_spawn : opsR .spawn op bs a = (smR bs a 15).bind fun v b => ((smR bs b 8).bind fun n c => rdE 15 bs n.toNat c).bind fun l d => .ok ⟨op, 0, v, 0, 0, l⟩ d := by
  have : opsR .spawn op bs a = (smR bs a 15).bind fun v b => (smR bs b 8).bind fun n c => (rdE 15 bs n.toNat c).bind fun l d => .ok ⟨op, 0, v, 0, 0, l⟩ d := rfl
  rw [this]
  congr 1
  funext v b
  rw [Rs.bind_assoc]
theorem opsR_new : opsR .new_ op bs a = (smR bs a 63).bind fun v b => (smR bs b 1000).bind fun u d => (rdE 15 bs 2 d).bind fun l e => .ok ⟨op, 0, v, 0, u, l⟩ e := rfl
theorem list_two : rdE 15 bs 2 a = (smR bs a 15).bind fun v b => (smR bs b 15).bind fun u d => .ok [v, u] d := by
  show ((smR bs a 15).bind fun v b => (rdE 15 bs 1 b).bind fun l c => .ok (v :: l) c) = _
  congr 1
  funext v b
  show ((smR bs b 15).bind fun v b => (rdE 15 bs 0 b).bind fun l c => .ok (v :: l) c).bind _ = _
  rw [Rs.bind_assoc]
  rfl
theorem opsR_twoL : opsR .two op bs a = (rdE 15 bs 2 a).bind fun l b => .ok ⟨op, 0, l.getD 0 0, l.getD 1 0, 0, []⟩ b := by
  rw [opsR_two, list_two, Rs.bind_assoc]
  congr 1
  funext v b
  rw [Rs.bind_assoc]
  rfl
theorem ints_more {n m : Nat} {W : World} {v : Value} {zs : List Int} (h : IntsA (fun k => n < k) W v zs) (hm : m ≤ n) : IntsA (fun k => m < k) W v zs := by
  obtain ⟨A, c, h1, h2⟩ := h
  refine ⟨A, c, h1, fun hn => ?_⟩
  obtain ⟨b, off, h3, h4, h5⟩ := h2 hn
  exact ⟨b, off, h3, Nat.lt_of_le_of_lt hm h4, h5⟩
end
/-- What stands behind the switch. -/
def OSR (w : World) (q : Nat) (bs : List UInt8) (r : Rs Ins) (W : World) : Prop := match r with
  | .ok x b => ∃ s : Sg, s.ins x.op = x ∧ OS w q bs b (s.cells x.op) 0 0 W ∧ IntsA (fun k => w.heap.size + 1 + 1 + 1 < k) W s.lv s.l
  | .flt c y b => ∃ (s : Sg) (op : Int) (A : Option Addr) (n cp : Nat), s.lv = .slice A n cp ∧ OS w q bs b (s.cells op) c (y : Int) W
def ROps (q : Nat) (bs : List UInt8) (r : Rs Ins) (w : World) (e : Ending) (w' : World) : Prop := match r with
  | .ok x b => ∃ s : Sg, s.ins x.op = x ∧ e = .returned (.tuple #[.agg (s.cells x.op), .agg #[.int .i64 0, .int .i64 0]]) ∧ IntsA (fun k => w.heap.size < k) w' s.lv s.l ∧ w.grownBy w' (some q) ∧ RefR w' q bs b 0
  | .flt c y b => ∃ (s : Sg) (op : Int) (A : Option Addr) (n cp : Nat), s.lv = .slice A n cp ∧ e = .returned (.tuple #[.agg (s.cells op), .agg #[.int .i64 c, .int .i64 (y : Int)]]) ∧ w.grownBy w' (some q) ∧ RefR w' q bs b 0
end Go.Proofs.YtmbdaenjeeklfaaDoor

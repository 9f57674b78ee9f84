/- Texts joined for the claim's sake: SBus, SLst. -/
import Derived.Test.YtmhbmeckdbdhpaaZSAddRow16
import Derived.Test.YtmhbmeckdbdhpaaZSAddRow17
import Derived.Sort.CutIn
import Derived.OwnWalkIn
import Derived.Sort.QuietIn
namespace Go.Proofs.Ytmhbmeckdbdhpaa
open Go.RowKit Go.Shelf
attribute [local go_sem] Oper.semAt_some

/-- What lies in cells stays as it is, but in the blocks that E names. -/
structure KE (E : Nat → Prop) (X Y : World) : Prop where
  size : X.heap.size ≤ Y.heap.size
  keep : ∀ k o, ¬ E k → X.heap[k]? = some o → o.isCells = true → Y.heap[k]? = some o
section
variable {E : Nat → Prop} {X Y Z : World}
theorem KE.refl (E : Nat → Prop) (X : World) : KE E X X := ⟨Nat.le_refl _, fun _ _ _ h _ => h⟩
theorem KE.trans (h : KE E X Y) (k : KE E Y Z) : KE E X Z := ⟨Nat.le_trans h.size k.size, fun i o hi ho hc => k.keep i o hi (h.keep i o hi ho hc) hc⟩
theorem KE.row {row : Option Nat} (h : X.grownBy Y row) (hr : ∀ g, row = some g → E g) : KE E X Y :=
  ⟨h.size, fun k _ hk ho _ => (h.block k (Array.getElem?_eq_some_iff.1 ho).1 (fun e => hk (hr k e.symm))).trans ho⟩
theorem KE.grown (h : X.grownBy Y none) : KE E X Y := .row h (fun _ e => by cases e)
theorem KE.alloc (X : World) (o : Obj) : KE E X (X.alloc o) := .grown (World.grownBy_alloc X o none)
theorem KE.putObj (X : World) (l : Nat) (o o' : Obj) (ho : X.heap[l]? = some o) (hc : o.isCells = false) : KE E X (X.putObj l o') :=
  ⟨by simp, fun k u _ hu hcu => by
    have hne : k ≠ l := fun e => by
      subst e
      rw [ho] at hu
      injection hu with hu
      rw [hu, hcu] at hc
      cases hc
    exact (World.putObj_heap_other hne).trans hu⟩
theorem KE.blk (h : KE E X Y) {k : Nat} {t : TypeId} {cs : Array Value} (hk : ¬ E k) (hb : Blk X k t cs) : Blk Y k t cs := h.keep k _ hk hb rfl
theorem KE.cell (h : KE E X Y) {a : Addr} {v : Value} (ha : ¬ E a.block) (hc : X.cell? a = some v) : Y.cell? a = some v := by
  cases ho : X.heap[a.block]? with
  | none => unfold World.cell? at hc; rw [ho] at hc; cases hc
  | some o =>
    have hoc : o.isCells = true := by
      unfold World.cell? at hc
      rw [ho] at hc
      cases o <;> first | rfl | cases hc
    rw [World.cell?_of_block ((h.keep _ _ ha ho hoc).trans ho.symm)]
    exact hc
theorem KE.keeps {w0 : World} (h : KE E X Y) (h0 : Keeps w0 X) (hE : ∀ k, E k → w0.heap.size ≤ k) : Keeps w0 Y := fun a v hc => h.cell (fun he => by
  have := cell_lt hc
  have := hE _ he
  omega) (h0 a v hc)
end

def busyI (xs : List Nd) : Nat → List Slt → List (Nat × Slt)
  | _, [] => []
  | i, x :: l => (if busyB xs x then [(i, x)] else []) ++ busyI xs (i + 1) l
theorem busyI_app (xs : List Nd) : ∀ (l m : List Slt) (i : Nat), busyI xs i (l ++ m) = busyI xs i l ++ busyI xs (i + l.length) m
  | [], m, i => rfl
  | x :: l, m, i => by
    show _ ++ busyI xs (i + 1) (l ++ m) = (_ ++ busyI xs (i + 1) l) ++ _
    rw [busyI_app xs l m (i + 1), List.append_assoc, List.length_cons, show i + 1 + l.length = i + (l.length + 1) by omega]
theorem busyI_take {xs : List Nd} {l : List Slt} {k : Nat} {x : Slt} (h : l[k]? = some x) : busyI xs 0 (l.take (k + 1)) = busyI xs 0 (l.take k) ++ (if busyB xs x then [(k, x)] else []) := by
  rw [take_len h, busyI_app, List.length_take, Nat.min_eq_left (Nat.le_of_lt (List.getElem?_eq_some_iff.1 h).1)]
  show _ = _ ++ _
  rw [Nat.zero_add]
  show _ ++ (_ ++ []) = _
  rw [List.append_nil]
theorem busyI_pre (xs : List Nd) (l : List Slt) (k : Nat) : busyI xs 0 (l.take k) <+: busyI xs 0 l := by
  have e : l = l.take k ++ l.drop k := (List.take_append_drop k l).symm
  have := busyI_app xs (l.take k) (l.drop k) 0
  rw [← e] at this
  rw [this]
  exact List.prefix_append _ _

theorem sbusyF_any (vc vo vp vq : Value) (s : StT) (w : World) :
    Calls Try.prog 29 #[.agg #[vc, vo, vp, vq], stV s] w fun e w' => e = .returned (.func (.func 44) #[] #[.pointer (some ⟨w.heap.size + 1, 0, none⟩), .pointer (some ⟨w.heap.size, 0, none⟩)]) ∧
      w' = (w.alloc (.cells #[vc, vo, vp, vq] 35)).alloc (.cells (stC s) 45) := by
  have hmf : ∀ (fn : Fn) (first cap : Array Value) (w : World), (Instr.makeFunc fn first cap).run Try.prog w = .ok (.func fn first cap) w := fun _ _ _ _ => rfl
  go_enter Try.func29, Try.ntmps29
  go_wp2
  go_ret
  exact ⟨rfl, rfl⟩

section
variable {F : Fence} {n : Nat} {ops : Array Oper} {rest : List Oper} {o : Oper} {a : Act} {w : World} {Q : Exit → Act → World → Prop}
theorem wpListIn_load_rg (hgd : o.guard = none) (x : Operand) (ho : o.op = .load 43 x) {g : Nat} (hx : a.eval x = .pointer (some ⟨g, 2, none⟩)) {s : StT} (hs : s.regs.length = 16) (hb : StB w g s)
    (h : wpListIn F n Try.prog ops Q rest (a.put o.dst (rgV s.regs)) w) : wpListIn F n Try.prog ops Q (o :: rest) a w := by
  refine wpListIn_plain hgd fun K hK => ?_
  unfold Oper.wpIn
  refine ⟨by simp [Oper.about, ho], ?_⟩
  rw [Oper.semAt_plain F _ _ (by rw [ho]; intro c hc; cases hc)]
  unfold execOp
  simp only [ho, hx, Instr.loadAt, Instr.sureAddr, Sem.run_bind, Sem.run_pure, Result.andThen_ok, run_loadVar_mid w g 2 43 (rgL s.regs) _ (rg_range hb) Try.underlying43 rfl (by rw [info_rg, rgL_len, hs])]
  exact hK _ _ h
theorem wpListIn_load_st (hgd : o.guard = none) (x : Operand) (ho : o.op = .load 45 x) {g : Nat} (hx : a.eval x = .pointer (some ⟨g, 0, none⟩)) {s : StT} (hs : s.regs.length = 16) (hb : StB w g s)
    (h : wpListIn F n Try.prog ops Q rest (a.put o.dst (stV s)) w) : wpListIn F n Try.prog ops Q (o :: rest) a w := by
  refine wpListIn_plain hgd fun K hK => ?_
  unfold Oper.wpIn
  refine ⟨by simp [Oper.about, ho], ?_⟩
  rw [Oper.semAt_plain F _ _ (by rw [ho]; intro c hc; cases hc)]
  unfold execOp
  have hr : w.rangeAt g 0 (stL s) := fun i u hi => by
    rw [Nat.zero_add]
    exact (hb.cell _).trans (by unfold stC; rw [List.getElem?_toArray]; exact hi)
  simp only [ho, hx, Instr.loadAt, Instr.sureAddr, Sem.run_bind, Sem.run_pure, Result.andThen_ok, run_loadVar_mid w g 0 45 (stL s) _ hr Try.underlying45 rfl (by rw [info_st]; unfold stL; simp [rgL_len, hs])]
  exact hK _ _ h
end
/-- What must lie as the busy registers are asked for. -/
structure BT (E : Nat → Prop) (Bs Bf : Nat) (vc vo vp vq : Value) (xs : List Nd) (s : StT) (w0 W : World) : Prop where
  tb : Tbl w0 vc xs
  kp : Keeps w0 W
  bs : StB W Bs s
  bf : Blk W Bf 35 #[vc, vo, vp, vq]
theorem BT.ke {E : Nat → Prop} {Bs Bf : Nat} {vc vo vp vq : Value} {xs : List Nd} {s : StT} {w0 W Y : World} (h : BT E Bs Bf vc vo vp vq xs s w0 W) (hk : KE E W Y) (e0 : ∀ k, E k → w0.heap.size ≤ k) (e1 : ¬ E Bs) (e2 : ¬ E Bf) : BT E Bs Bf vc vo vp vq xs s w0 Y :=
  ⟨h.tb, hk.keeps h.kp e0, hk.blk e1 h.bs, hk.blk e2 h.bf⟩
set_option maxRecDepth 100000 in
set_option maxHeartbeats 2000000 in
/-- The busy registers, one by one, until a round says 'no more'. -/
theorem busy_told (E : Nat → Prop) (Bs Bf : Nat) (vc vo vp vq : Value) (xs : List Nd) (s : StT) (w0 : World) (e0 : ∀ k, E k → w0.heap.size ≤ k) (e1 : ¬ E Bs) (e2 : ¬ E Bf) (hs : s.regs.length = 16) (hl : xs.length ≤ 1000000) :
    TellsO Fence.wide 2 Try.prog 44 #[.pointer (some ⟨Bs, 0, none⟩), .pointer (some ⟨Bf, 0, none⟩)] (fun p : Nat × Slt => #[.int .i64 (p.1 : Int), slV p.2]) (KE E) (BT E Bs Bf vc vo vp vq xs s w0) (busyI xs 0 s.regs) := fun l J Jx W hJ hY h0 hT0 => by
  refine callsIn_of_wp Try.func44 rfl trivial ?_ rfl
  simp only [Try.ntmps44, List.size_toArray, List.length_cons, List.length_nil, Nat.reduceAdd, Nat.reduceSub, Array.replicate_succ, Array.replicate_zero, List.push_toArray, List.append_toArray, List.nil_append, List.cons_append]
  have HT := Lib.hid hT0
  have HY := Lib.hid hY
  have HJ := Lib.hid hJ
  have HS := Lib.hid hs
  have HL := Lib.hid hl
  have H0 : Hid (J (busyI xs 0 (s.regs.take 0)) W) := Lib.hid (by rw [List.take_zero]; exact h0)
  clear hY hJ h0 hT0 hs hl
  gi_upto_region 0 with fail
  refine wpIn_region_lit ?_
  gi_wp2_with (refine wpListIn_load_rg rfl (.tmp 6) rfl rfl HS.out HT.out.bs ?_)
  gi_loopw [8] (fun i wr => ∃ k : Nat, k ≤ 16 ∧ i = .int .i64 (k : Int) ∧ J (busyI xs 0 (s.regs.take k)) wr ∧ BT E Bs Bf vc vo vp vq xs s w0 wr) (fun i _ => 16 - (intOf i).toNat)
  case atStart => exact ⟨0, Nat.zero_le _, rfl, H0.out, HT.out⟩
  case round =>
    obtain ⟨k, hk, rfl, hJ1, ht⟩ := hrel
    have HJ1 := Lib.hid hJ1
    have HT1 := Lib.hid ht
    by_cases hlt : k < 16
    · obtain ⟨⟨a, b, c⟩, hx⟩ := reg_some HS.out hlt
      have HX := Lib.hid hx
      have hk0 : (0 : Int) ≤ (k : Int) := by omega
      have hk1 : (k : Int) < 16 := by omega
      have hix := run_index_rg hx hlt
      have f0 := ht.bf.cell 0
      have f1 := ht.bf.cell 1
      have f2 := ht.bf.cell 2
      have f3 := ht.bf.cell 3
      clear hJ1 ht hx
      gi_upto_region 3 with fail
      have hbx : Blk (wr.alloc (.cells #[.int .i64 a, .int .i64 b, .int .i64 c] 42)) wr.heap.size 42 #[.int .i64 a, .int .i64 b, .int .i64 c] := Blk.new _ _ _
      have hgx : wr.grownBy (wr.alloc (.cells #[.int .i64 a, .int .i64 b, .int .i64 c] 42)) none := only_alloc (only_refl _ _) _
      generalize wr.heap.size = Bx at *
      generalize wr.alloc _ = W2 at *
      have HT2 := Lib.hid (HT1.out.ke (KE.grown hgx) e0 e1 e2)
      have HJ2 := Lib.hid (HJ.out _ _ _ HJ1.out hgx)
      have HBX := Lib.hid hbx
      have x0 := hbx.cell 0
      have x1 := hbx.cell 1
      have x2 := hbx.cell 2
      clear f0 f1 f2 f3
      have f0 := HT2.out.bf.cell 0
      have f1 := HT2.out.bf.cell 1
      have f2 := HT2.out.bf.cell 2
      have f3 := HT2.out.bf.cell 3
      obtain ⟨bz, hbz⟩ : ∃ bz, busyB xs ⟨a, b, c⟩ = bz := ⟨_, rfl⟩
      have HBZ := Lib.hid hbz
      have HPRE := Lib.hid (busyI_take (xs := xs) HX.out)
      clear hbx hgx hbz HT1 HJ1 hix
      cases bz with
      | false =>
        gi_wp2_with (refine ⟨trivial, ?_⟩; gi_at_call 17; go_must (refine (callsIn_wide.2 (sbusy_any xs vc vo vp vq ⟨a, b, c⟩ _ (HT2.out.tb.keep HT2.out.kp) HL.out)).mono ?_; rw [HBZ.out]; rintro e W6 ⟨rfl, hg⟩; have HG6 := Lib.hid hg; clear hg))
        refine ⟨fun _ h => (by cases h), ?_⟩
        gi_wp2_with fail
        go_roundw
        case rel => exact ⟨k + 1, by omega, by go_num, by rw [HPRE.out, HBZ.out]; simpa using HJ.out _ _ _ HJ2.out HG6.out, HT2.out.ke (KE.grown HG6.out) e0 e1 e2⟩
        case measure => simp [intOf]; omega
      | true =>
        have HPF : Hid (busyI xs 0 (s.regs.take k) ++ [(k, (⟨a, b, c⟩ : Slt))] <+: busyI xs 0 s.regs) := Lib.hid (by
          have h1 := HPRE.out
          rw [HBZ.out, if_pos rfl] at h1
          rw [← h1]
          exact busyI_pre _ _ _)
        gi_wp2_with (refine ⟨trivial, ?_⟩; gi_at_call 17; go_must (refine (callsIn_wide.2 (sbusy_any xs vc vo vp vq ⟨a, b, c⟩ _ (HT2.out.tb.keep HT2.out.kp) HL.out)).mono ?_; rw [HBZ.out]; rintro e W6 ⟨rfl, hg⟩; have HG6 := Lib.hid hg; have y0 := (HBX.out.kept hg).cell 0; have y1 := (HBX.out.kept hg).cell 1; have y2 := (HBX.out.kept hg).cell 2; obtain ⟨fn, tmps, assign, body, hy, hR⟩ := HY.out _ (k, ⟨a, b, c⟩) W6 HPF.out (HJ.out _ _ _ HJ2.out HG6.out); clear hg))
        refine hR.mono ?_
        rintro e W7 (⟨rfl, hJ3, hk3⟩ | ⟨rfl, hJ3⟩)
        · have HR := Lib.hid (HT2.out.ke ((KE.grown HG6.out).trans hk3) e0 e1 e2)
          have HJ3 := Lib.hid hJ3
          clear hJ3 hk3
          gi_wp2_with fail
          go_roundw
          case rel => exact ⟨k + 1, by omega, by go_num, by rw [HPRE.out, HBZ.out]; exact HJ3.out, HR.out⟩
          case measure => simp [intOf]; omega
        · have HR := Lib.hid hJ3
          clear hJ3
          gi_wp2_with fail
          refine bodyPost_ret (results_none rfl _ _ _) rfl ?_
          exact ⟨⟨_, rfl⟩, .inr ⟨_, HPF.out, by simp, HR.out⟩⟩
    · have hke : k = 16 := by omega
      subst hke
      have HX : Hid (J (busyI xs 0 s.regs) wr) := Lib.hid (by have := HJ1.out; rwa [List.take_of_length_le (by rw [HS.out]; exact Nat.le_refl _)] at this)
      clear hJ1 ht hlt
      gi_wp2_with fail
      go_end0
      exact ⟨⟨_, rfl⟩, .inl HX.out⟩
end Go.Proofs.Ytmhbmeckdbdhpaa

namespace Go.Proofs.Ytmhbmeckdbdhpaa
open Go.RowKit Go.Shelf
attribute [local go_sem] Oper.semAt_some

theorem busyI_snd (xs : List Nd) : ∀ (l : List Slt) (i : Nat), (busyI xs i l).map Prod.snd = l.filter (busyB xs)
  | [], _ => rfl
  | x :: l, i => by
    show (_ ++ busyI xs (i + 1) l).map Prod.snd = _
    rw [List.map_append, busyI_snd xs l (i + 1), List.filter_cons]
    split <;> rfl
def lessL (pre : List (Nat × Slt)) : Option Int := leastO (pre.map Prod.snd)
theorem lessL_snoc (pre : List (Nat × Slt)) (p : Nat × Slt) : lessL (pre ++ [p]) = lessO (lessL pre) p.2 := by
  unfold lessL leastO
  rw [List.map_append, List.foldl_append]
  rfl
theorem lessL_all (xs : List Nd) (s : StT) : lessL (busyI xs 0 s.regs) = leastA xs s := by
  unfold lessL leastA
  rw [busyI_snd]
abbrev leastV (o : Option Int) : Value := .tuple #[.int .i64 (o.getD 0), .bool o.isSome]
section
variable {w W W' : World}
theorem blk_ownFS {row : Option Nat} {B k : Nat} {t : TypeId} {cs : Array Value} (h : Blk W k t cs) (hg : W.grownBy W' row) (hr : ∀ r, row = some r → B ≤ r ∧ ∃ o : Obj, W.heap[r]? = some o ∧ o.isCells = false) : Blk W' k t cs := by
  refine h.grown hg (fun e => ?_)
  obtain ⟨_, o, ho, hc⟩ := hr k e.symm
  unfold Blk at h
  rw [h] at ho
  cases ho
  cases hc
theorem grown_ownFS {row : Option Nat} {B : Nat} (h : w.grownBy W none) (hB : w.heap.size ≤ B) (hg : W.grownBy W' row) (hr : ∀ r, row = some r → B ≤ r ∧ ∃ o : Obj, W.heap[r]? = some o ∧ o.isCells = false) : w.grownBy W' none := by
  cases e : row with
  | none => rw [e] at hg; exact only_trans h hg
  | some g => rw [e] at hg; exact only_new h hg (Nat.le_trans hB (hr g e).1)
end
/-- What stands as the least is looked for. -/
structure LsI (w : World) (b6 b7 : Nat) (o : Option Int) (W : World) : Prop where
  gr : w.grownBy W none
  h6 : Blk W b6 3 #[.int .i64 (o.getD 0)]
  h7 : Blk W b7 4 #[.bool o.isSome]
theorem LsI.kept {w W W' : World} {b6 b7 : Nat} {o : Option Int} (h : LsI w b6 b7 o W) (hg : W.grownBy W' none) : LsI w b6 b7 o W' := ⟨only_trans h.gr hg, h.h6.kept hg, h.h7.kept hg⟩
theorem LsI.own {w : World} {b6 b7 B : Nat} (hB : w.heap.size ≤ B) : OwnFrom B (fun pre : List (Nat × Slt) => LsI w b6 b7 (lessL pre)) := fun _ _ _ _ h hg hr => ⟨grown_ownFS h.gr hB hg hr, blk_ownFS h.h6 hg hr, blk_ownFS h.h7 hg hr⟩
theorem LsI.set {w W : World} {b6 b7 : Nat} {o : Option Int} {p : Int} (h : LsI w b6 b7 o W) (h6 : w.heap.size ≤ b6) (h7 : w.heap.size ≤ b7) (hne : b6 ≠ b7) : LsI w b6 b7 (some p) ((W.setCell ⟨b6, 0, none⟩ (.int .i64 p)).setCell ⟨b7, 0, none⟩ (.bool true)) ∧
    KE (fun k => k = b6 ∨ k = b7) W ((W.setCell ⟨b6, 0, none⟩ (.int .i64 p)).setCell ⟨b7, 0, none⟩ (.bool true)) ∧ ∀ B, KeepsFrom B W ((W.setCell ⟨b6, 0, none⟩ (.int .i64 p)).setCell ⟨b7, 0, none⟩ (.bool true)) := by
  refine ⟨⟨only_setNew (only_setNew h.gr h6 _) h7 _, (h.h6.set_ 0 _).far (p := ⟨b7, 0, none⟩) hne _, (h.h7.far (p := ⟨b6, 0, none⟩) (fun e => hne e.symm) _).set_ 0 _⟩, ?_, fun B => ((KeepsOthers.setCell _ _ _).from _).trans ((KeepsOthers.setCell _ _ _).from _)⟩
  exact (KE.row (only_setCell (g := b6) (only_refl _ _) rfl _) (fun g e => by injection e with e; exact .inl e.symm)).trans (KE.row (only_setCell (g := b7) (only_refl _ _) rfl _) (fun g e => by injection e with e; exact .inr e.symm))

set_option maxRecDepth 100000 in
set_option maxHeartbeats 4000000 in
theorem sleast_any (xs : List Nd) (vc vo vp vq : Value) (s : StT) (w : World) (hT : Tbl w vc xs) (hl : xs.length ≤ 1000000) (hs : s.regs.length = 16) :
    Calls Try.prog 16 #[.agg #[vc, vo, vp, vq], stV s] w fun e w' => e = .returned (leastV (leastA xs s)) ∧ w.grownBy w' none := by
  have HT := Lib.hid hT
  have HL := Lib.hid hl
  have HS := Lib.hid hs
  refine (callsIn_wide (n := 3)).1 ?_
  refine callsIn_of_wp_marks Try.func16 rfl trivial ?_ rfl
  simp only [Try.ntmps16, List.size_toArray, List.length_cons, List.length_nil, Nat.reduceAdd, Nat.reduceSub, Array.replicate_succ, Array.replicate_zero, List.push_toArray, List.append_toArray, List.nil_append, List.cons_append]
  clear hT hl hs
  gi_upto_region 2 with fail
  obtain ⟨W0, hW0⟩ : ∃ W0, ((((w.alloc (.cells #[vc, vo, vp, vq] 35)).alloc (.cells (stC s) 45)).alloc (.cells #[.int .i64 0] 3)).alloc (.cells #[.bool false] 4)) = W0 := ⟨_, rfl⟩
  have hg0 : w.grownBy W0 none := by rw [← hW0]; exact only_alloc (only_alloc (only_alloc (only_alloc (only_refl _ _) _) _) _) _
  have hz : W0.heap.size = w.heap.size + 4 := by rw [← hW0]; simp
  have hbf : Blk W0 w.heap.size 35 #[vc, vo, vp, vq] := by rw [← hW0]; exact (((Blk.new _ _ _).alloc _).alloc _).alloc _
  have hbs : StB W0 (w.heap.size + 1) s := by rw [← hW0]; exact ((blk_at (by simp) _ _).alloc _).alloc _
  have hb6 : Blk W0 (w.heap.size + 1 + 1) 3 #[.int .i64 0] := by rw [← hW0]; exact (blk_at (by simp) _ _).alloc _
  have hb7 : Blk W0 (w.heap.size + 1 + 1 + 1) 4 #[.bool false] := by rw [← hW0]; exact blk_at (by simp) _ _
  rw [hW0]
  clear hW0
  have f0 := hbf.cell 0
  have f1 := hbf.cell 1
  have f2 := hbf.cell 2
  have f3 := hbf.cell 3
  have HB := Lib.hid hbs
  have HI0 : Hid (LsI w (w.heap.size + 1 + 1) (w.heap.size + 1 + 1 + 1) none W0) := Lib.hid ⟨hg0, hb6, hb7⟩
  have HZ := Lib.hid hz
  clear hbf hbs hg0 hb6 hb7 hz
  refine wpIn_region_lit ?_
  gi_wp2_with (first | (refine wpListIn_load_st rfl (.tmp 3) rfl rfl HS.out HB.out ?_) | (refine ⟨trivial, ?_⟩; gi_at_call 29; go_must (refine (callsIn_wide.2 (sbusyF_any vc vo vp vq s _)).mono ?_; rintro e w5 ⟨rfl, rfl⟩)) | fail)
  obtain ⟨W1, hW1⟩ : ∃ W1, ((W0.alloc (.cells #[vc, vo, vp, vq] 35)).alloc (.cells (stC s) 45)) = W1 := ⟨_, rfl⟩
  have hg1 : W0.grownBy W1 none := by rw [← hW1]; exact only_alloc (only_alloc (only_refl _ _) _) _
  have hz1 : W1.heap.size = w.heap.size + 6 := by rw [← hW1]; simp [HZ.out]
  have hbf : Blk W1 (w.heap.size + 4) 35 #[vc, vo, vp, vq] := by rw [← hW1, ← HZ.out]; exact (Blk.new _ _ _).alloc _
  have hbs : StB W1 (w.heap.size + 4 + 1) s := by rw [← hW1, ← HZ.out]; exact blk_at (by simp) _ _
  have HI1 : Hid (LsI w (w.heap.size + 1 + 1) (w.heap.size + 1 + 1 + 1) none W1) := Lib.hid (HI0.out.kept hg1)
  have HBT : Hid (BT (fun k => k = w.heap.size + 1 + 1 ∨ k = w.heap.size + 1 + 1 + 1) (w.heap.size + 4 + 1) (w.heap.size + 4) vc vo vp vq xs s w W1) := Lib.hid ⟨HT.out, .grown HI1.out.gr, hbs, hbf⟩
  rw [hW1]
  rw [HZ.out]
  clear hW1 hg1 hbf hbs f0 f1 f2 f3 HB HI0 HZ
  have HZ1 := Lib.hid hz1
  refine wpIn_rangeFunc_told rfl (by omega) (gf := 44) (lb := #[.pointer (some ⟨w.heap.size + 4 + 1, 0, none⟩), .pointer (some ⟨w.heap.size + 4, 0, none⟩)]) rfl trivial (enters_of Try.func44 (by kernel_rfl) rfl)
    (busy_told (fun k => k = w.heap.size + 1 + 1 ∨ k = w.heap.size + 1 + 1 + 1) (w.heap.size + 4 + 1) (w.heap.size + 4) vc vo vp vq xs s w (fun k hk => by omega) (by omega) (by omega) HS.out HL.out) KE.trans (fun W l o o' _ ho hc => KE.putObj W l o o' ho hc) KE.alloc (fun _ => rfl) ?t0
    (fun pre => LsI w (w.heap.size + 1 + 1) (w.heap.size + 1 + 1 + 1) (lessL pre)) (fun _ _ _ => False) (LsI.own (by omega)) (fun _ _ _ _ _ h => h.elim) HI1.out 42 (fun p => slC p.2)
    (fun p Bx => { tmps := #[.agg #[vc, vo, vp, vq], stV s, .pointer (some ⟨w.heap.size, 0, none⟩), .pointer (some ⟨w.heap.size + 1, 0, none⟩), .int .i64 0, .bool false, .pointer (some ⟨w.heap.size + 1 + 1, 0, none⟩), .pointer (some ⟨w.heap.size + 1 + 1 + 1, 0, none⟩), undef, .pointer (some ⟨Bx, 0, none⟩), .agg #[vc, vo, vp, vq], stV s, (.func (.func 44) #[] #[.pointer (some ⟨w.heap.size + 4 + 1, 0, none⟩), .pointer (some ⟨w.heap.size + 4, 0, none⟩)]), .int .i64 (p.1 : Int), slV p.2, undef, undef, undef, undef, undef, undef, undef, undef, undef, undef, undef, undef], defers := [] }) ?assign ?body ?done ?stop
  case t0 =>
    intro W hW
    exact ⟨HT.out, HBT.out.kp.trans (Keeps.below hW), HBT.out.bs.below hW (by omega), HBT.out.bf.below hW (by omega)⟩
  case assign =>
    intro l e W K hK
    gi_wp2
    exact hK
  case stop =>
    rintro D c pre W hD hpre hne h hK
    exact h.elim
  case body =>
    rintro l pre ⟨i, a, b, c⟩ W Bx hpre hBx h1 hbx
    try dsimp only
    dsimp only at hbx
    have x2 : W.cell? ⟨Bx, 2, none⟩ = some (.int .i64 c) := hbx.cell 2
    have c6 : W.cell? ⟨w.heap.size + 1 + 1, 0, none⟩ = some (.int .i64 ((lessL pre).getD 0)) := h1.h6.cell 0
    have c7 : W.cell? ⟨w.heap.size + 1 + 1 + 1, 0, none⟩ = some (.bool (lessL pre).isSome) := h1.h7.cell 0
    have HSN := Lib.hid (lessL_snoc pre (i, ⟨a, b, c⟩))
    have hset := h1.set (p := c) (by omega) (by omega) (by omega)
    have H1 := Lib.hid h1
    have H2 := Lib.hid hset
    obtain ⟨o, ho⟩ : ∃ o, lessL pre = o := ⟨_, rfl⟩
    rw [ho] at c6 c7
    have HO := Lib.hid ho
    have hl6 := cell_lt c6
    have hl7 := cell_lt c7
    have hlx := cell_lt x2
    have fr6 := h1.h6.frozen 0
    have fr7 := h1.h7.frozen 0
    clear ho h1 hset hpre hbx
    cases o with
    | none =>
      simp only [Option.getD_none, Option.isSome_none] at c6 c7
      gi_wp2_with fail
      exact ⟨H2.out.2.2 _, H2.out.2.1, by show LsI _ _ _ (lessL (pre ++ _)) _; rw [HSN.out, HO.out]; exact H2.out.1⟩
    | some m =>
      simp only [Option.getD_some, Option.isSome_some] at c6 c7
      by_cases hlt : c < m
      · gi_wp2_with fail
        exact ⟨H2.out.2.2 _, H2.out.2.1, by show LsI _ _ _ (lessL (pre ++ _)) _; rw [HSN.out, HO.out]; show LsI _ _ _ (if c < m then some c else some m) _; rw [if_pos hlt]; exact H2.out.1⟩
      · have hle : m ≤ c := by omega
        gi_wp2_with fail
        exact ⟨KeepsFrom.refl _ _, KE.refl _ _, by show LsI _ _ _ (lessL (pre ++ _)) _; rw [HSN.out, HO.out]; show LsI _ _ _ (if c < m then some c else some m) _; rw [if_neg (by omega), ← HO.out]; exact H1.out⟩
  case done =>
    rintro D W hD h1 hK
    rw [lessL_all] at h1
    have c6 : W.cell? ⟨w.heap.size + 1 + 1, 0, none⟩ = some (.int .i64 ((leastA xs s).getD 0)) := h1.h6.cell 0
    have c7 : W.cell? ⟨w.heap.size + 1 + 1 + 1, 0, none⟩ = some (.bool (leastA xs s).isSome) := h1.h7.cell 0
    have hl6 := cell_lt c6
    have hl7 := cell_lt c7
    have H1 := Lib.hid h1
    have HK := Lib.hid hK
    clear h1 hK
    generalize hm : (leastA xs s).getD 0 = m at c6
    generalize hz : (leastA xs s).isSome = z at c7
    have HM := Lib.hid (And.intro hm hz)
    clear hm hz
    gi_upto_region 6 with fail
    gi_quiet (fail)
    all_goals gi_wp2_with fail
    all_goals refine marks_ret (B := w.heap.size + 6) [D] _ (by simp) (fun D' hm => by obtain rfl := List.mem_singleton.1 hm; exact ⟨by have := HZ1.out; omega, by simpa using HK.out⟩) fun W' hW' => ⟨.tuple #[.int .i64 m, .bool z], by simp [results, Try.results16, go_sem], by rw [← HM.out.1, ← HM.out.2], hW'.grown (only_drewN H1.out.gr _) (by omega)⟩
end Go.Proofs.Ytmhbmeckdbdhpaa

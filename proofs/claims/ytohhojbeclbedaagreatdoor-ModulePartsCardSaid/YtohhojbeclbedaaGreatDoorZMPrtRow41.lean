/- Texts joined for the claim's sake: MPuK, MPut. -/
import Derived.Test.YtohhojbeclbedaaGreatDoorZMPrtRow38
import Derived.Test.YtohhojbeclbedaaGreatDoorZMPrtRow39
import Derived.Test.YtohhojbeclbedaaGreatDoorZMPrtRow23
namespace Go.Proofs.YtohhojbeclbedaaGreatDoor
open Go.RowKit

theorem passert_nil (w : World) : (Instr.typeAssert .nilIface 20 30 true).run Tryz.prog w = .ok (.tuple #[.int .i64 0, .bool false]) w := by kernel_rfl
theorem passert_arg (w : World) : (Instr.typeAssert (.iface 30 (.int .i64 2)) 20 30 true).run Tryz.prog w = .ok (.tuple #[.int .i64 2, .bool true]) w := by kernel_rfl
set_option maxRecDepth 100000 in
set_option maxHeartbeats 400000 in
theorem mput_catch (p q : Addr) (u v : Value) (older : List PanicEntry) (w : World) (hp : w.cell? p = some u) (hz : w.frozen? p = false) (hq : (w.setCell p (.string ⟨#[]⟩)).cell? q = some v) (hzq : (w.setCell p (.string ⟨#[]⟩)).frozen? q = false) :
    CallsD Tryz.prog 21 #[.pointer (some p), .pointer (some q)] (.panicking ({ v := .iface 30 (.int .i64 2), recovered := false } :: older)) w fun e u' w' =>
      e = .returned (.tuple #[]) ∧ u' = .panicking ({ v := .iface 30 (.int .i64 2), recovered := true } :: older) ∧ w' = (w.setCell p (.string ⟨#[]⟩)).setCell q (.int .i64 2) := by
  have h1 := passert_arg w
  refine callsD_of_wpS Tryz.func21 rfl fun c₀ cs hu => ?_
  refine wpS_seq (wpS_region ?_)
  simp [wpOpsS, go_sem, recoverD, hu, Tryz.ntmps21, h1]
  refine wpS_seq (wpS_region ?_)
  simp [wpOpsS, go_sem]
  refine wpS_cond (t := true) (by simp [go_sem]) ?_
  refine wpS_region ?_
  simp [wpOpsS, go_sem, hp, hz, hq, hzq, bodyPostS, results, Tryz.results21]
set_option maxRecDepth 100000 in
set_option maxHeartbeats 400000 in
theorem mput_idle (p q : Addr) (w : World) :
    CallsD Tryz.prog 21 #[.pointer (some p), .pointer (some q)] .returning w fun e u' w' => e = .returned (.tuple #[]) ∧ u' = .returning ∧ w' = w := by
  have h1 := passert_nil w
  refine callsD_of_wpS Tryz.func21 rfl fun c₀ cs hu => ?_
  refine wpS_seq (wpS_region ?_)
  simp [wpOpsS, go_sem, recoverD, hu, Tryz.ntmps21, h1]
  refine wpS_seq (wpS_region ?_)
  simp [wpOpsS, go_sem]
  refine wpS_cond (t := false) (by simp [go_sem]) ?_
  refine wpS_of_wp ?_
  simp only [Bool.false_eq_true, if_false]
  refine wp_skip ?_
  simp [bodyPostS, results, Tryz.results21, go_sem]
  cases c₀
  simp_all
end Go.Proofs.YtohhojbeclbedaaGreatDoor

namespace Go.Proofs.YtohhojbeclbedaaGreatDoor
open Go.RowKit

/-- Three texts' bytes, or how the call ends. -/
def joinV (a b c : List UInt8) : List UInt8 × Int := if a.length ≤ 65536 ∧ b.length ≤ 65536 ∧ c.length ≤ 65536 then (joined a b c, 0) else ([], 4)
/-- What Put answers: a module's bytes, and no error; or which. -/
def putP (m : Mo) : List UInt8 × Int := match typesO m, tplsO m, bootO m with
  | some a, some b, some c => joinV a b c
  | _, _, _ => ([], 2)
def putV (m : Mo) : Value := .tuple #[.string ⟨(putP m).1.toArray⟩, .int .i64 (putP m).2]
theorem join_any (a b c : List UInt8) (w : World) : Calls Tryz.prog 19 #[.agg #[.string ⟨a.toArray⟩, .string ⟨b.toArray⟩, .string ⟨c.toArray⟩]] w fun e w' => e = .returned (.tuple #[.string ⟨(joinV a b c).1.toArray⟩, .int .i64 (joinV a b c).2]) ∧ w.grownBy w' none := by
  have ha : (⟨a.toArray⟩ : ByteArray).size = a.length := by show a.toArray.size = _; simp
  have hb : (⟨b.toArray⟩ : ByteArray).size = b.length := by show b.toArray.size = _; simp
  have hc : (⟨c.toArray⟩ : ByteArray).size = c.length := by show c.toArray.size = _; simp
  unfold joinV
  split
  · rename_i h
    exact join_ok ⟨a.toArray⟩ ⟨b.toArray⟩ ⟨c.toArray⟩ (by omega) (by omega) (by omega) w
  · exact join_long ⟨a.toArray⟩ ⟨b.toArray⟩ ⟨c.toArray⟩ (by omega) w
/-- What stands as Put goes on: the module, and its results, boxed. -/
structure PU (w : World) (bm bS bE : Nat) (cs : Array Value) (W : World) : Prop where
  g : w.grownBy W none
  m : Blk W bm 28 cs
  s : Blk W bS 9 #[.string ⟨#[]⟩]
  e : Blk W bE 30 #[.int .i64 0]
  h1 : w.heap.size ≤ bS
  h2 : w.heap.size ≤ bE
  h3 : bS ≠ bE
theorem PU.kept {w W W' : World} {bm bS bE : Nat} {cs : Array Value} (h : PU w bm bS bE cs W) (hg : W.grownBy W' none) : PU w bm bS bE cs W' := ⟨only_trans h.g hg, h.m.kept hg, h.s.kept hg, h.e.kept hg, h.h1, h.h2, h.h3⟩
/-- Results that are stored. -/
theorem PU.put {w W : World} {bm bS bE : Nat} {cs : Array Value} (h : PU w bm bS bE cs W) (u v : Value) :
    W.cell? ⟨bS, 0, none⟩ = some (.string ⟨#[]⟩) ∧ W.frozen? ⟨bS, 0, none⟩ = false ∧ (W.setCell ⟨bS, 0, none⟩ u).cell? ⟨bE, 0, none⟩ = some (.int .i64 0) ∧ (W.setCell ⟨bS, 0, none⟩ u).frozen? ⟨bE, 0, none⟩ = false ∧
    ((W.setCell ⟨bS, 0, none⟩ u).setCell ⟨bE, 0, none⟩ v).cell? ⟨bS, 0, none⟩ = some u ∧ ((W.setCell ⟨bS, 0, none⟩ u).setCell ⟨bE, 0, none⟩ v).cell? ⟨bE, 0, none⟩ = some v ∧ w.grownBy ((W.setCell ⟨bS, 0, none⟩ u).setCell ⟨bE, 0, none⟩ v) none := by
  have e1 := h.e.far (p := ⟨bS, 0, none⟩) (by show bE ≠ bS; exact Ne.symm h.h3) u
  have s1 := h.s.set_ 0 u
  have s2 := s1.far (p := ⟨bE, 0, none⟩) (by show bS ≠ bE; exact h.h3) v
  have e2 := e1.set_ 0 v
  exact ⟨h.s.cell 0, h.s.frozen 0, e1.cell 0, e1.frozen 0, s2.cell 0, e2.cell 0, only_setNew (only_setNew h.g h.h1 _) h.h2 _⟩
set_option maxRecDepth 100000 in
set_option maxHeartbeats 4000000 in
theorem mput_any (m : Mo) (A0 A1 A2 A3 A4 A5 A6 A7 : Option Addr) (n0 q0 n1 q1 n2 q2 n3 q3 n4 q4 n5 q5 n6 q6 n7 q7 : Nat) (w : World) (hx : ModR (fun b => b < w.heap.size) w m A0 A1 A2 A3 n0 q0 n1 q1 n2 q2 n3 q3) (hf : m.Fit) :
    Calls Tryz.prog 9 #[.agg #[.slice A0 n0 q0, .slice A1 n1 q1, .slice A2 n2 q2, .slice A3 n3 q3, .slice A4 n4 q4, .slice A5 n5 q5, .slice A6 n6 q6, .slice A7 n7 q7]] w fun e w' => e = .returned (putV m) ∧ w.grownBy w' none := by
  have hmf : ∀ (fn : Fn) (first cap : Array Value) (w : World), (Instr.makeFunc fn first cap).run Tryz.prog w = .ok (.func fn first cap) w := fun _ _ _ _ => rfl
  unfold putV putP
  obtain ⟨o1, ho1⟩ : ∃ o, typesO m = o := ⟨_, rfl⟩
  obtain ⟨o2, ho2⟩ : ∃ o, tplsO m = o := ⟨_, rfl⟩
  obtain ⟨o3, ho3⟩ : ∃ o, bootO m = o := ⟨_, rfl⟩
  rw [ho1, ho2, ho3]
  have HO1 := Lib.hid ho1
  have HO2 := Lib.hid ho2
  have HO3 := Lib.hid ho3
  have hU : PU w w.heap.size (w.heap.size + 1) (w.heap.size + 1 + 1) #[.slice A0 n0 q0, .slice A1 n1 q1, .slice A2 n2 q2, .slice A3 n3 q3, .slice A4 n4 q4, .slice A5 n5 q5, .slice A6 n6 q6, .slice A7 n7 q7] (((w.alloc (.cells #[.slice A0 n0 q0, .slice A1 n1 q1, .slice A2 n2 q2, .slice A3 n3 q3, .slice A4 n4 q4, .slice A5 n5 q5, .slice A6 n6 q6, .slice A7 n7 q7] 28)).alloc (.cells #[.string ⟨#[]⟩] 9)).alloc (.cells #[.int .i64 0] 30)) := by
    refine ⟨only_alloc (only_alloc (only_alloc (only_refl _ _) _) _) _, ((Blk.new _ _ _).alloc _).alloc _, (blk_new_at (by simp) _ _).alloc _, blk_new_at (by simp) _ _, by omega, by omega, by omega⟩
  have HU := Lib.hid hU
  have HX := Lib.hid hx
  have HF := Lib.hid hf
  clear hx hf ho1 ho2 ho3 hU
  go_enter_defers Tryz.func9, Tryz.ntmps9
  go_upto_region 2 with fail
  generalize (((w.alloc (.cells #[.slice A0 n0 q0, .slice A1 n1 q1, .slice A2 n2 q2, .slice A3 n3 q3, .slice A4 n4 q4, .slice A5 n5 q5, .slice A6 n6 q6, .slice A7 n7 q7] 28)).alloc (.cells #[.string ⟨#[]⟩] 9)).alloc (.cells #[.int .i64 0] 30)) = W0 at *
  generalize hbE : w.heap.size + 1 + 1 = bE at *
  clear hbE
  generalize hbS : w.heap.size + 1 = bS at *
  clear hbS
  go_wp2_with fail
  refine (mtext_1 (S := fun b => b < w.heap.size) (fun b hb => Nat.lt_of_lt_of_le hb HU.out.g.size) m A0 A1 A2 A3 A4 A5 A6 A7 n0 q0 n1 q1 n2 q2 n3 q3 n4 q4 n5 q5 n6 q6 n7 q7 HU.out.m (HX.out.kept (KeptS.none_ HU.out.g)) HF.out).mono ?_
  rintro e w1 hT
  rw [HO1.out] at hT
  obtain ⟨gt, ht⟩ := hT
  have HU1 := Lib.hid (HU.out.kept gt)
  clear gt
  cases o1 with
  | none =>
    have ht' : e = gaveArg := ht
    subst ht'
    obtain ⟨e1, e2, e3, e4, e5, e6, e7⟩ := HU1.out.put (.string ⟨#[]⟩) (.int .i64 2)
    have HE7 := Lib.hid e7
    clear ht e7
    go_wp2_with fail
    refine leaves_cons (f := 21) (args := #[.pointer (some ⟨bS, 0, none⟩), .pointer (some ⟨bE, 0, none⟩)]) (by simp) (by simp [go_sem]) ?_
    refine (mput_catch ⟨bS, 0, none⟩ ⟨bE, 0, none⟩ _ _ [] _ e1 e2 e3 e4).mono ?_
    rintro e u' w9 ⟨rfl, rfl, rfl⟩
    simp [Leaves, settle, results, Tryz.results9, go_sem, e5, e6]
    exact HE7.out
  | some t1 =>
    have ht' : e = .returned (.string ⟨t1.toArray⟩) := ht
    subst ht'
    clear ht
    go_wp2_with fail
    refine (mtext_2 (S := fun b => b < w.heap.size) (fun b hb => Nat.lt_of_lt_of_le hb HU1.out.g.size) m A0 A1 A2 A3 A4 A5 A6 A7 n0 q0 n1 q1 n2 q2 n3 q3 n4 q4 n5 q5 n6 q6 n7 q7 HU1.out.m (HX.out.kept (KeptS.none_ HU1.out.g)) HF.out).mono ?_
    rintro e w2 hT
    rw [HO2.out] at hT
    obtain ⟨gt, ht⟩ := hT
    have HU2 := Lib.hid (HU1.out.kept gt)
    clear gt
    cases o2 with
    | none =>
      have ht' : e = gaveArg := ht
      subst ht'
      obtain ⟨e1, e2, e3, e4, e5, e6, e7⟩ := HU2.out.put (.string ⟨#[]⟩) (.int .i64 2)
      have HE7 := Lib.hid e7
      clear ht e7
      go_wp2_with fail
      refine leaves_cons (f := 21) (args := #[.pointer (some ⟨bS, 0, none⟩), .pointer (some ⟨bE, 0, none⟩)]) (by simp) (by simp [go_sem]) ?_
      refine (mput_catch ⟨bS, 0, none⟩ ⟨bE, 0, none⟩ _ _ [] _ e1 e2 e3 e4).mono ?_
      rintro e u' w9 ⟨rfl, rfl, rfl⟩
      simp [Leaves, settle, results, Tryz.results9, go_sem, e5, e6]
      exact HE7.out
    | some t2 =>
      have ht' : e = .returned (.string ⟨t2.toArray⟩) := ht
      subst ht'
      clear ht
      go_wp2_with fail
      refine (mtext_3 (S := fun b => b < w.heap.size) (fun b hb => Nat.lt_of_lt_of_le hb HU2.out.g.size) m A0 A1 A2 A3 A4 A5 A6 A7 n0 q0 n1 q1 n2 q2 n3 q3 n4 q4 n5 q5 n6 q6 n7 q7 HU2.out.m (HX.out.kept (KeptS.none_ HU2.out.g)) HF.out).mono ?_
      rintro e w3 hT
      rw [HO3.out] at hT
      obtain ⟨gt, ht⟩ := hT
      have HU3 := Lib.hid (HU2.out.kept gt)
      clear gt
      cases o3 with
      | none =>
        have ht' : e = gaveArg := ht
        subst ht'
        obtain ⟨e1, e2, e3, e4, e5, e6, e7⟩ := HU3.out.put (.string ⟨#[]⟩) (.int .i64 2)
        have HE7 := Lib.hid e7
        clear ht e7
        go_wp2_with fail
        refine leaves_cons (f := 21) (args := #[.pointer (some ⟨bS, 0, none⟩), .pointer (some ⟨bE, 0, none⟩)]) (by simp) (by simp [go_sem]) ?_
        refine (mput_catch ⟨bS, 0, none⟩ ⟨bE, 0, none⟩ _ _ [] _ e1 e2 e3 e4).mono ?_
        rintro e u' w9 ⟨rfl, rfl, rfl⟩
        simp [Leaves, settle, results, Tryz.results9, go_sem, e5, e6]
        exact HE7.out
      | some t3 =>
        have ht' : e = .returned (.string ⟨t3.toArray⟩) := ht
        subst ht'
        clear ht
        go_wp2_with fail
        refine (join_any t1 t2 t3 _).mono ?_
        rintro e w4 ⟨rfl, g4⟩
        obtain ⟨e1, e2, e3, e4, e5, e6, e7⟩ := (HU3.out.kept g4).put (.string ⟨(joinV t1 t2 t3).1.toArray⟩) (.int .i64 (joinV t1 t2 t3).2)
        have HE7 := Lib.hid e7
        clear g4 e7
        go_wp2_with fail
        refine leaves_cons (f := 21) (args := #[.pointer (some ⟨bS, 0, none⟩), .pointer (some ⟨bE, 0, none⟩)]) (by simp) (by simp [go_sem]) ?_
        refine (mput_idle ⟨bS, 0, none⟩ ⟨bE, 0, none⟩ _).mono ?_
        rintro e u' w9 ⟨rfl, rfl, rfl⟩
        simp [Leaves, settle, results, Tryz.results9, go_sem, e5, e6]
        exact HE7.out
end Go.Proofs.YtohhojbeclbedaaGreatDoor

/- Texts joined for the claim's sake: SecI. -/
import Derived.Test.YtohhojbeclbedaaGreatDoorZMKnwRow13
import Derived.Test.YtohhojbeclbedaaGreatDoorZMKnwRow17
import Derived.Test.YtohhojbeclbedaaGreatDoorZMKnwRow11
import Derived.RangeFuncBox
import Derived.Shelf.Abstract
import Derived.Shelf.RegionOpen
import Derived.WalkKit
import Derived.OwnWalkIn
import Derived.TacticsInMore
import Derived.LoopNIn
import Derived.LoopIn
namespace Go.Proofs.YtohhojbeclbedaaGreatDoor
open Go.RowKit Go.Shelf
attribute [local go_sem] Oper.semAt_some

/-! ### What stays of a state -/
/-- A reader moves on, and hands out another one. -/
theorem St.hand {w0 w w' : World} {rs : List RD} {fs : List FD} {g a bg a' p q c : Nat} {bs cs : List UInt8} (h : St w0 w (⟨g, bs, a, bg⟩ :: rs) fs) (hs : w.heap.size ≤ p) (hg : w.grownBy w' (some g)) (hr : Rdr w' g bs a' bg) (hp : Rdr w' p cs q c) :
    St w0 w' (⟨g, bs, a', bg⟩ :: ⟨p, cs, q, c⟩ :: rs) fs := by
  have h' := h.move hg hr
  have h2 : St w0 w' (⟨p, cs, q, c⟩ :: ⟨g, bs, a', bg⟩ :: rs) fs := by
    refine ⟨h'.err, h'.err0, h'.step, fun r hm => ?_, ?_, h'.flt⟩
    · rcases List.mem_cons.1 hm with rfl | hm
      · exact ⟨Nat.le_trans h.step.size hs, hp⟩
      · exact h'.rdr r hm
    · rw [List.map_cons, List.nodup_cons]
      refine ⟨fun hm => ?_, h'.apart⟩
      obtain ⟨r, hr', he⟩ := List.mem_map.1 hm
      have h2 : r.g = p := he
      rcases List.mem_cons.1 hr' with rfl | hr''
      · have h3 : g = p := h2
        have h1 := h.head.lt
        have h4 : g < w.heap.size := h1
        omega
      · have h1 := h.lt (List.mem_cons_of_mem _ hr'')
        omega
  exact h2.swap

/-! ### The sections that have come -/
/-- A section: its reader, where its text stands, how long it is; or a fault. -/
inductive Sx
  | ok (q p n : Nat)
  | bad (fb : Nat)
abbrev sxArgs : Sx → Array Value
  | .ok q _ _ => #[.pointer (some ⟨q, 0, none⟩), .nilIface]
  | .bad fb => #[.pointer none, .iface 94 (.pointer (some ⟨fb, 0, none⟩))]
def sxR (b : List UInt8) : Sx → RD
  | .ok q p n => ⟨q, cut b p n, 0, p⟩
  | .bad fb => ⟨fb, [], 0, 0⟩
inductive Pos (b : List UInt8) : List Sx → Nat → Prop
  | start : HeadOk b → Pos b [] 5
  | snoc {pre : List Sx} {a j p n : Nat} (q : Nat) : Pos b pre a → SecOk b (pre.length + 1) a j p n → Pos b (pre ++ [.ok q p n]) (p + n)
theorem Pos.le {b : List UInt8} {pre : List Sx} {a : Nat} (h : Pos b pre a) : a ≤ b.length := by
  cases h with
  | start h => exact head_len h
  | snoc q h1 h2 => exact h2.fits
theorem Pos.no_bad {b : List UInt8} {pre : List Sx} {fb a : Nat} (h : Pos b (pre ++ [.bad fb]) a) : False := by
  generalize hl : pre ++ [Sx.bad fb] = l at h
  cases h with
  | start _ => simp at hl
  | snoc q h1 h2 =>
    have := (List.append_inj' hl rfl).2
    simp at this
/-- All blocks of w but g and X lie as they lay. -/
def Keep (w : World) (g X : Nat) (W : World) : Prop := ∀ k t cs, k ≠ g → k ≠ X → Blk w k t cs → Blk W k t cs
theorem Keep.refl (w : World) (g X : Nat) : Keep w g X w := fun _ _ _ _ _ h => h
theorem Keep.new {w W W' : World} {g X : Nat} (h : Keep w g X W) (hg : W.grownBy W' none) : Keep w g X W' := fun k t cs h1 h2 hb => (h k t cs h1 h2 hb).kept hg
theorem Keep.at_g {w W W' : World} {g X : Nat} (h : Keep w g X W) (hg : W.grownBy W' (some g)) : Keep w g X W' := fun k t cs h1 h2 hb => (h k t cs h1 h2 hb).grown hg (fun e => h1 (by injection e))
theorem Keep.at_x {w W W' : World} {g X : Nat} (h : Keep w g X W) (hg : W.grownBy W' (some X)) : Keep w g X W' := fun k t cs h1 h2 hb => (h k t cs h1 h2 hb).grown hg (fun e => h2 (by injection e))
theorem Keep.far {w W W' : World} {g X i : Nat} (h : Keep w g X W) (hg : W.grownBy W' (some i)) (hi : w.heap.size ≤ i) : Keep w g X W' := fun k t cs h1 h2 hb => (h k t cs h1 h2 hb).grown hg (fun e => by have := hb.lt; injection e with e; omega)
theorem Keep.own {w W W' : World} {g X : Nat} {row : Option Nat} (h : Keep w g X W) (hg : W.grownBy W' row) (hr : ∀ r, row = some r → ∃ o : Obj, W.heap[r]? = some o ∧ o.isCells = false) : Keep w g X W' := fun k t cs h1 h2 hb => (h k t cs h1 h2 hb).own hg hr
/-- What the sections' function keeps between two rounds. -/
def ST (w0 w : World) (g X Bn : Nat) (b : List UInt8) (pre : List Sx) (W : World) : Prop :=
  ∃ a, Pos b pre a ∧ St w0 W (⟨g, b, a, 0⟩ :: pre.reverse.map (sxR b)) [] ∧ Blk W Bn 54 #[.pointer (some ⟨g, 0, none⟩)] ∧ Keep w g X W
/-- What holds as it hands a section over. -/
def STm (w0 w : World) (g X Bn : Nat) (b : List UInt8) (pre : List Sx) (x : Sx) (W : World) : Prop :=
  pre.length < 3 ∧ match x with
  | .ok q p n => ST w0 w g X Bn b (pre ++ [.ok q p n]) W
  | .bad fb => ∃ a c y, Pos b pre a ∧ SecFault b (pre.length + 1) a c y ∧ St w0 W [] [⟨fb, c, y⟩] ∧ Keep w g X W
/-- Its own steps: the reader's block alone is turned. -/
def SSp (g : Nat) (X Y : World) : Prop := X.grownBy Y (some g) ∧ ∃ cs, Blk X g 111 cs

theorem sections_any (g : Nat) (w : World) :
    Calls Tryz.prog 124 #[.pointer (some ⟨g, 0, none⟩)] w fun e w' => e = .returned (.func (.func 170) #[] #[.pointer (some ⟨w.heap.size, 0, none⟩)]) ∧ w' = w.alloc (.cells #[.pointer (some ⟨g, 0, none⟩)] 54) := by
  have hmf : ∀ (fn : Fn) (first cap : Array Value) (w : World), (Instr.makeFunc fn first cap).run Tryz.prog w = .ok (.func fn first cap) w := fun _ _ _ _ => rfl
  go_enter Tryz.func124, Tryz.ntmps124
  go_wp2
  go_ret
  exact ⟨rfl, rfl⟩

/-- One section taken, at a state. -/
theorem takeSec_st {w0 w W : World} {g X Bn : Nat} {b : List UInt8} {pre : List Sx} (h : ST w0 w g X Bn b pre W) (hp : pre.length < 3) (hB : g ≠ Bn) :
    Calls Tryz.prog 171 #[.pointer (some ⟨g, 0, none⟩), .int .u8 ((pre.length + 1 : Nat) : Int)] W fun e W' => SSp g W W' ∧
      ((∃ q p n, e = .returned (.tuple #[.pointer (some ⟨q, 0, none⟩), .nilIface]) ∧ STm w0 w g X Bn b pre (.ok q p n) W') ∨
       (∃ fb, e = .returned (.tuple #[.pointer none, .iface 94 (.pointer (some ⟨fb, 0, none⟩))]) ∧ STm w0 w g X Bn b pre (.bad fb) W')) := by
  obtain ⟨a, hpos, hst, hb, hkp⟩ := h
  have hblk := hst.head.blk
  rcases sec_or b (pre.length + 1) a hpos.le with ⟨c, y, hf⟩ | ⟨j, p, n, hk⟩
  · refine (takeSec_fault hst.head (pre.length + 1) (by omega) hf).mono ?_
    rintro e W' ⟨fb, rfl, h1, h2, b', a', h3⟩
    refine ⟨⟨h2, hblk⟩, .inr ⟨fb, rfl, hp, a, c, y, hpos, hf, ?_⟩⟩
    have hh := hst.rdr _ (List.mem_cons_self)
    obtain ⟨cs, hbk⟩ := hblk
    refine ⟨?_, hkp.at_g h2⟩
    exact ⟨hst.err.kept h2 (fun k e => by injection e with e; subst e; have := hst.err0; have h1 : w0.heap.size ≤ g := hh.1; omega), hst.err0, only_new hst.step h2 hh.1, by simp, by simp, fun f hf => by
      simp only [List.mem_singleton] at hf; subst hf; exact h1⟩
  · refine (takeSec_ok hst.head (pre.length + 1) j p n (by omega) hk).mono ?_
    rintro e W' ⟨q, rfl, h1, h2, h3, h4⟩
    refine ⟨⟨h2, hblk⟩, .inl ⟨q, p, n, rfl, hp, p + n, .snoc q hpos hk, ?_, ?_⟩⟩
    · rw [List.reverse_append]
      exact hst.hand h1 h2 h3 h4
    · exact ⟨hb.grown h2 (fun e => hB (by injection e with e; exact e.symm)), hkp.at_g h2⟩

set_option maxRecDepth 100000 in
set_option maxHeartbeats 2000000 in
theorem sections_in (w0 w : World) (g X Bn : Nat) (b : List UInt8) (hB : g ≠ Bn) :
    Hands Fence.wide 2 Tryz.prog 170 #[.pointer (some ⟨Bn, 0, none⟩)] sxArgs (SSp g) (ST w0 w g X Bn b) (STm w0 w g X Bn b) (fun xs => xs.length = 3) := fun l J Jx W hJ hY h0 t0 => by
  refine callsIn_of_wp Tryz.func170 rfl trivial ?_ rfl
  simp only [Tryz.ntmps170, List.size_toArray, List.length_cons, List.length_nil, Nat.reduceAdd, Nat.reduceSub, Array.replicate_succ, Array.replicate_zero, List.push_toArray, List.append_toArray, List.nil_append, List.cons_append]
  gi_wp2
  gi_loopw [6] (fun v wr => ∃ (pre : List Sx), v = .int .i64 (pre.length : Int) ∧ pre.length ≤ 3 ∧ J pre wr ∧ ST w0 w g X Bn b pre wr) (fun v wr => (3 - intOf v).toNat)
  case atStart => exact ⟨[], rfl, by simp, h0, t0⟩
  case round =>
    obtain ⟨pre, rfl, hle, hJ1, hT1⟩ := hrel
    by_cases h3 : pre.length = 3
    · rw [h3]
      gi_wp2
      go_end0
      exact ⟨⟨_, rfl⟩, .inl ⟨pre, h3, hJ1, hT1⟩⟩
    · have hlt : pre.length < 3 := by omega
      have HT := takeSec_st hT1 hlt hB
      have hc : wr.cell? ⟨Bn, 0, none⟩ = some (.pointer (some ⟨g, 0, none⟩)) := by obtain ⟨_, _, _, hb, _⟩ := hT1; exact hb.cell 0
      have HY : ∀ x Z, J pre Z → STm w0 w g X Bn b pre x Z → YieldAt Fence.wide (2 - 1) Tryz.prog l (sxArgs x) Z fun e Y => (e = .returned (.bool true) ∧ J (pre ++ [x]) Y ∧ ST w0 w g X Bn b (pre ++ [x]) Y) ∨ (e = .returned (.bool false) ∧ Jx (pre ++ [x]) Y) := fun x Z => hY pre x Z
      have hJ2 : ∀ Z, SSp g wr Z → J pre Z := fun Z hs => hJ pre wr Z hJ1 hs
      have hk : ∃ m : Nat, m < 3 ∧ (pre.length : Int) = (m : Int) ∧ ((pre.length + 1 : Nat) : Int) = (m : Int) + 1 := ⟨pre.length, hlt, rfl, by omega⟩
      have hlen := Lib.hid (rfl : pre.length = pre.length)
      obtain ⟨m, hm3, hm, hm1⟩ := hk
      have HM := Lib.hid hm
      rw [hm1] at HT
      rw [hm]
      clear hY hJ hJ1 hT1 hle h3 hlt hm hm1
      have hm' : m = 0 ∨ m = 1 ∨ m = 2 := by omega
      rcases hm' with rfl | rfl | rfl
      all_goals
        simp only [Int.cast_ofNat_Int, Int.zero_add, Int.reduceAdd] at HT ⊢
        gi_wp2_with fail
        refine ⟨trivial, (callsIn_wide.2 HT).mono ?_⟩
        clear HT
        rintro e Z ⟨hs, (⟨q, p, n, rfl, hm⟩ | ⟨fb, rfl, hm⟩)⟩
        · obtain ⟨fn, tmps, assign, body, hy, hR⟩ := HY (.ok q p n) Z (hJ2 _ hs) hm
          simp only [sxArgs] at hy
          clear hm
          gi_wp2
          refine hR.mono ?_
          clear hR hy
          rintro e Y (⟨rfl, hJ3, hT3⟩ | ⟨rfl, hJx⟩)
          · gi_wp2
            go_roundw
            case rel => exact ⟨pre ++ [.ok q p n], by have := HM.out; rw [List.length_append]; simp; omega, by have := HM.out; rw [List.length_append]; simp; omega, hJ3, hT3⟩
            case measure => simp [intOf]
          · gi_wp2
            refine bodyPost_ret (results_none rfl _ _ _) rfl ?_
            exact ⟨⟨_, rfl⟩, .inr ⟨_, hJx⟩⟩
        · obtain ⟨fn, tmps, assign, body, hy, hR⟩ := HY (.bad fb) Z (hJ2 _ hs) hm
          simp only [sxArgs] at hy
          clear hm
          gi_wp2
          refine hR.mono ?_
          clear hR hy
          rintro e Y (⟨rfl, hJ3, hT3⟩ | ⟨rfl, hJx⟩)
          · obtain ⟨_, hp, _⟩ := hT3
            exact hp.no_bad.elim
          · gi_wp2
            refine bodyPost_ret (results_none rfl _ _ _) rfl ?_
            exact ⟨⟨_, rfl⟩, .inr ⟨_, hJx⟩⟩
end Go.Proofs.YtohhojbeclbedaaGreatDoor

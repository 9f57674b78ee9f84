/- Texts joined for the claim's sake: SecT, SecU, SecH. -/
import Derived.Test.YtohhojbeclbedaaGreatDoorZMKnwRow16
import Derived.Laws.ResultCell
namespace Go.Proofs.YtohhojbeclbedaaGreatDoor
open Go.RowKit

/-- Within takeSection: the reader's place, the number asked for, the text's size, the text. -/
structure TS (w : World) (g : Nat) (b : List UInt8) (a : Nat) (k z : Int) (v : Value) (W : World) : Prop where
  lt : g < w.heap.size
  grow : w.grownBy W (some g)
  rdr : Rdr W g b a 0
  br : Blk W w.heap.size 54 #[.pointer (some ⟨g, 0, none⟩)]
  bn : Blk W (w.heap.size + 1) 5 #[.int .u8 k]
  bt : Blk W (w.heap.size + 2) 54 #[v]
  bz : Blk W (w.heap.size + 3) 3 #[.int .i64 z]
  bf : Blk W (w.heap.size + 4) 101 #[.func (.func 195) #[] #[.pointer (some ⟨w.heap.size, 0, none⟩), .pointer (some ⟨w.heap.size + 1, 0, none⟩)], .func (.func 196) #[] #[.pointer (some ⟨w.heap.size, 0, none⟩), .pointer (some ⟨w.heap.size + 3, 0, none⟩)], .func (.func 197) #[] #[.pointer (some ⟨w.heap.size, 0, none⟩), .pointer (some ⟨w.heap.size + 3, 0, none⟩), .pointer (some ⟨w.heap.size + 2, 0, none⟩)]]

section
variable {w W W' : World} {g a : Nat} {b : List UInt8} {k z : Int} {v : Value}
theorem TS.move (h : TS w g b a k z v W) (hg : W.grownBy W' (some g)) {a' : Nat} (hr : Rdr W' g b a' 0) : TS w g b a' k z v W' := by
  have hl := h.lt
  refine ⟨hl, only_trans h.grow hg, hr, h.br.grown hg ?_, h.bn.grown hg ?_, h.bt.grown hg ?_, h.bz.grown hg ?_, h.bf.grown hg ?_⟩ <;> (intro e; injection e with e; omega)
theorem TS.setZ (h : TS w g b a k z v W) (z' : Int) : TS w g b a k z' v (W.setCell ⟨w.heap.size + 3, 0, none⟩ (.int .i64 z')) := by
  have hl := h.lt
  have hg : W.grownBy (W.setCell ⟨w.heap.size + 3, 0, none⟩ (.int .i64 z')) (some (w.heap.size + 3)) := only_setCell (only_refl _ _) rfl _
  refine ⟨hl, only_setNew h.grow (by show w.heap.size ≤ w.heap.size + 3; omega) _, h.rdr.grown hg ?_ ?_, h.br.grown hg ?_, h.bn.grown hg ?_, h.bt.grown hg ?_, h.bz.set_ 0 _, h.bf.grown hg ?_⟩
  · intro e; injection e with e; omega
  · intro j e
    injection e with e
    subst e
    exact ⟨_, _, h.bz, by decide⟩
  all_goals (intro e; injection e with e; omega)
theorem TS.setV (h : TS w g b a k z v W) (v' : Value) : TS w g b a k z v' (W.setCell ⟨w.heap.size + 2, 0, none⟩ v') := by
  have hl := h.lt
  have hg : W.grownBy (W.setCell ⟨w.heap.size + 2, 0, none⟩ v') (some (w.heap.size + 2)) := only_setCell (only_refl _ _) rfl _
  refine ⟨hl, only_setNew h.grow (by show w.heap.size ≤ w.heap.size + 2; omega) _, h.rdr.grown hg ?_ ?_, h.br.grown hg ?_, h.bn.grown hg ?_, h.bt.set_ 0 _, h.bz.grown hg ?_, h.bf.grown hg ?_⟩
  · intro e; injection e with e; omega
  · intro j e
    injection e with e
    subst e
    exact ⟨_, _, h.bt, by decide⟩
  all_goals (intro e; injection e with e; omega)
/-- Another reader, and a fault, stay as the text is set. -/
theorem TS.keepR (h : TS w g b a k z v W) (v' : Value) {p q bg : Nat} {bs : List UInt8} (hp : Rdr W p bs q bg) : Rdr (W.setCell ⟨w.heap.size + 2, 0, none⟩ v') p bs q bg := by
  have hg : W.grownBy (W.setCell ⟨w.heap.size + 2, 0, none⟩ v') (some (w.heap.size + 2)) := only_setCell (only_refl _ _) rfl _
  obtain ⟨cs, hb⟩ := hp.blk
  refine hp.grown hg ?_ ?_
  · intro e; injection e with e; exact Blk.ne_ hb h.bt (by decide) e
  · intro j e
    injection e with e
    subst e
    exact ⟨_, _, h.bt, by decide⟩
theorem TS.keepF (h : TS w g b a k z v W) (v' : Value) {fb : Nat} {c x : Int} (hf : Flt W fb c x) : Flt (W.setCell ⟨w.heap.size + 2, 0, none⟩ v') fb c x := by
  have hg : W.grownBy (W.setCell ⟨w.heap.size + 2, 0, none⟩ v') (some (w.heap.size + 2)) := only_setCell (only_refl _ _) rfl _
  exact Blk.grown hf hg (fun e => by injection e with e; exact Blk.ne_ hf h.bt (by decide) e)
end

theorem Blk.new' {w : World} {n : Nat} (h : w.heap.size = n) (t : TypeId) (cs : Array Value) : Blk (w.alloc (.cells cs t)) n t cs := by subst h; exact Blk.new w t cs
theorem TS.start {w : World} {g a : Nat} {b : List UInt8} (h : Rdr w g b a 0) (k : Int) :
    TS w g b a k 0 (.pointer none) (((((w.alloc (.cells #[.pointer (some ⟨g, 0, none⟩)] 54)).alloc (.cells #[.int .u8 k] 5)).alloc (.cells #[.pointer none] 54)).alloc (.cells #[.int .i64 0] 3)).alloc (.cells #[.func (.func 195) #[] #[.pointer (some ⟨w.heap.size, 0, none⟩), .pointer (some ⟨w.heap.size + 1, 0, none⟩)], .func (.func 196) #[] #[.pointer (some ⟨w.heap.size, 0, none⟩), .pointer (some ⟨w.heap.size + 3, 0, none⟩)], .func (.func 197) #[] #[.pointer (some ⟨w.heap.size, 0, none⟩), .pointer (some ⟨w.heap.size + 3, 0, none⟩), .pointer (some ⟨w.heap.size + 2, 0, none⟩)]] 101)) := by
  have hg : w.grownBy (((((w.alloc (.cells #[.pointer (some ⟨g, 0, none⟩)] 54)).alloc (.cells #[.int .u8 k] 5)).alloc (.cells #[.pointer none] 54)).alloc (.cells #[.int .i64 0] 3)).alloc (.cells #[.func (.func 195) #[] #[.pointer (some ⟨w.heap.size, 0, none⟩), .pointer (some ⟨w.heap.size + 1, 0, none⟩)], .func (.func 196) #[] #[.pointer (some ⟨w.heap.size, 0, none⟩), .pointer (some ⟨w.heap.size + 3, 0, none⟩)], .func (.func 197) #[] #[.pointer (some ⟨w.heap.size, 0, none⟩), .pointer (some ⟨w.heap.size + 3, 0, none⟩), .pointer (some ⟨w.heap.size + 2, 0, none⟩)]] 101)) none := only_alloc (only_alloc (only_alloc (only_alloc (only_alloc (only_refl _ _) _) _) _) _) _
  refine ⟨h.lt, only_weak hg _, h.kept hg, ?_, ?_, ?_, ?_, ?_⟩
  · exact ((((Blk.new w _ _).alloc _).alloc _).alloc _).alloc _
  · exact (((Blk.new' (by simp) _ _).alloc _).alloc _).alloc _
  · exact ((Blk.new' (by simp) _ _).alloc _).alloc _
  · exact (Blk.new' (by simp) _ _).alloc _
  · exact Blk.new' (by simp) _ _
theorem sec_results {tmps : Array Value} {W : World} {tb : Nat} {v u : Value} (hp : tmps.getD 4 undef = .pointer (some ⟨tb, 0, none⟩)) (h5 : tmps.getD 5 undef = u) (hb : Blk W tb 54 #[v]) :
    (results Tryz.f171 tmps).run Tryz.prog W = .ok (.tuple #[v, u]) W := by
  have hc := hb.cell 0
  have hp' : tmps[4]?.getD undef = .pointer (some ⟨tb, 0, none⟩) := by simpa using hp
  have h5' : tmps[5]?.getD undef = u := by simpa using h5
  simp [results, Tryz.results171, hp', h5', go_sem, hc]

set_option maxRecDepth 100000 in
set_option maxHeartbeats 2000000 in
/-- takeSection, out of its three steps. -/
theorem takeSec_of {w : World} {g a : Nat} {b : List UInt8} {k : Int} (h : Rdr w g b a 0) {R : Nat → World → Prop} {F : Nat → World → Prop}
    (H : ∀ W, TS w g b a k 0 (.pointer none) W → Calls Tryz.prog 50 #[.slice (some ⟨w.heap.size + 4, 0, none⟩) 3 3] W (Stp (fun W' => ∃ p a' z, TS w g b a' k z (.pointer (some ⟨p, 0, none⟩)) W' ∧ R p W') (fun fb W' => ∃ a' z, TS w g b a' k z (.pointer none) W' ∧ F fb W'))) :
    Calls Tryz.prog 171 #[.pointer (some ⟨g, 0, none⟩), .int .u8 k] w fun e w' =>
      (∃ p a' z W, TS w g b a' k z (.pointer (some ⟨p, 0, none⟩)) W ∧ R p W ∧ e = .returned (.tuple #[.pointer (some ⟨p, 0, none⟩), .nilIface]) ∧ w' = W.setCell ⟨w.heap.size + 2, 0, none⟩ (.pointer (some ⟨p, 0, none⟩))) ∨
      (∃ fb a' z W, TS w g b a' k z (.pointer none) W ∧ F fb W ∧ e = .returned (.tuple #[.pointer none, .iface 94 (.pointer (some ⟨fb, 0, none⟩))]) ∧ w' = W.setCell ⟨w.heap.size + 2, 0, none⟩ (.pointer none)) := by
  have hmf : ∀ (fn : Fn) (first cap : Array Value) (w : World), (Instr.makeFunc fn first cap).run Tryz.prog w = .ok (.func fn first cap) w := fun _ _ _ _ => rfl
  go_enter Tryz.func171, Tryz.ntmps171
  go_wp2_with fail
  refine (H _ ?_).mono ?_
  · exact TS.start h k
  rintro e W' (⟨rfl, p, a', z, ht, hr⟩ | ⟨fb, rfl, a', z, ht, hf⟩)
  · have c1 := ht.bt.cell 0
    have c2 := ht.bt.frozen 0
    go_wp2_with fail
    exact bodyPost_ret (sec_results rfl rfl (ht.setV _).bt) rfl (.inl ⟨p, a', z, W', ht, hr, rfl, rfl⟩)
  · have c1 := ht.bt.cell 0
    have c2 := ht.bt.frozen 0
    go_wp2_with fail
    exact bodyPost_ret (sec_results rfl rfl (ht.setV _).bt) rfl (.inr ⟨fb, a', z, W', ht, hf, rfl, rfl⟩)
end Go.Proofs.YtohhojbeclbedaaGreatDoor

namespace Go.Proofs.YtohhojbeclbedaaGreatDoor
open Go.RowKit

section
variable {w W : World} {g a : Nat} {b : List UInt8} {k z : Int} {v : Value}

set_option maxRecDepth 100000 in
set_option maxHeartbeats 2000000 in
theorem c1_of (h : TS w g b a k z v W) {R : World → Prop} {F : Nat → World → Prop}
    (HE : Calls Tryz.prog 123 #[.pointer (some ⟨g, 0, none⟩), .int .u8 k, .int .i64 3, .int .i64 7] W (Stp R F)) :
    Calls Tryz.prog 195 #[.pointer (some ⟨w.heap.size, 0, none⟩), .pointer (some ⟨w.heap.size + 1, 0, none⟩)] W (Stp R F) := by
  have c0 := h.br.cell 0
  have c1 := h.bn.cell 0
  clear h
  go_enter Tryz.func195, Tryz.ntmps195
  go_wp2_with fail
  refine HE.mono ?_
  rintro e W' (⟨rfl, hr⟩ | ⟨fb, rfl, hf⟩)
  · go_wp2_with fail
    go_ret
    exact .inl ⟨rfl, hr⟩
  · go_wp2_with fail
    go_ret
    exact .inr ⟨fb, rfl, hf⟩
theorem c1_ok (h : TS w g b a k z v W) (u : UInt8) (hu : b[a]? = some u) (hk : k = (u.toNat : Int)) (F : Nat → World → Prop) :
    Calls Tryz.prog 195 #[.pointer (some ⟨w.heap.size, 0, none⟩), .pointer (some ⟨w.heap.size + 1, 0, none⟩)] W (Stp (TS w g b (a + 1) k z v) F) :=
  c1_of h ((expect_ok h.rdr u k hk hu 3 7).mono fun _ _ ⟨h1, h2, h3⟩ => .inl ⟨h1, h.move h2 h3⟩)
theorem c1_lack (h : TS w g b a k z v W) (ha : a = b.length) (R : World → Prop) :
    Calls Tryz.prog 195 #[.pointer (some ⟨w.heap.size, 0, none⟩), .pointer (some ⟨w.heap.size + 1, 0, none⟩)] W (Stp R fun fb W' => ∃ a' z, TS w g b a' k z v W' ∧ Flt W' fb 3 (a : Int)) :=
  c1_of h ((expect_lack h.rdr ha k 3 7).mono fun _ _ ⟨fb, h1, h2, _, h4⟩ => .inr ⟨fb, h1, a, z, h.move (only_weak h4 _) (h.rdr.kept h4), by simpa using h2⟩)
theorem c1_other (h : TS w g b a k z v W) (u : UInt8) (hu : b[a]? = some u) (hk : k ≠ (u.toNat : Int)) (R : World → Prop) :
    Calls Tryz.prog 195 #[.pointer (some ⟨w.heap.size, 0, none⟩), .pointer (some ⟨w.heap.size + 1, 0, none⟩)] W (Stp R fun fb W' => ∃ a' z, TS w g b a' k z v W' ∧ Flt W' fb 7 (a : Int)) :=
  c1_of h ((expect_other h.rdr u hu k hk 3 7).mono fun _ _ ⟨fb, h1, h2, _, h4, h5⟩ => .inr ⟨fb, h1, a + 1, z, h.move h4 h5, by simpa using h2⟩)

set_option maxRecDepth 100000 in
set_option maxHeartbeats 2000000 in
theorem c2_ok (h : TS w g b a k z v W) {n : Int} {a' : Nat} (F : Nat → World → Prop)
    (HS : Calls Tryz.prog 190 #[.pointer (some ⟨g, 0, none⟩), .int .i64 65536] W fun e W' => e = .returned (.tuple #[.int .i64 n, .nilIface]) ∧ W.grownBy W' (some g) ∧ Rdr W' g b a' 0) :
    Calls Tryz.prog 196 #[.pointer (some ⟨w.heap.size, 0, none⟩), .pointer (some ⟨w.heap.size + 3, 0, none⟩)] W (Stp (TS w g b a' k n v) F) := by
  have c0 := h.br.cell 0
  go_enter Tryz.func196, Tryz.ntmps196
  go_wp2_with fail
  refine HS.mono ?_
  rintro e W' ⟨rfl, hg, hr⟩
  have h' := h.move hg hr
  have c1 := h'.bz.cell 0
  have c2 := h'.bz.frozen 0
  clear h c0 HS hg hr
  have hs := Lib.hid (h'.setZ n)
  clear h'
  go_wp2_with fail
  go_ret
  exact .inl ⟨rfl, hs.out⟩
set_option maxRecDepth 100000 in
set_option maxHeartbeats 2000000 in
theorem c2_fault (h : TS w g b a k z v W) {c x : Int} {a' : Nat} (R : World → Prop)
    (HS : Calls Tryz.prog 190 #[.pointer (some ⟨g, 0, none⟩), .int .i64 65536] W (FaultBeside .i64 fun fb W' => Flt W' fb c x ∧ W.heap.size ≤ fb ∧ W.grownBy W' (some g) ∧ Rdr W' g b a' 0)) :
    Calls Tryz.prog 196 #[.pointer (some ⟨w.heap.size, 0, none⟩), .pointer (some ⟨w.heap.size + 3, 0, none⟩)] W (Stp R fun fb W' => ∃ a' z, TS w g b a' k z v W' ∧ Flt W' fb c x) := by
  have c0 := h.br.cell 0
  go_enter Tryz.func196, Tryz.ntmps196
  go_wp2_with fail
  refine HS.mono ?_
  rintro e W' ⟨fb, rfl, hf, _, hg, hr⟩
  have h' := h.move hg hr
  have c1 := h'.bz.cell 0
  have c2 := h'.bz.frozen 0
  clear h c0 HS hg hr
  have hs := Lib.hid (h'.setZ 0)
  have hf' : Flt (W'.setCell ⟨w.heap.size + 3, 0, none⟩ (.int .i64 0)) fb c x := Blk.far hf (p := ⟨w.heap.size + 3, 0, none⟩) (Blk.ne_ hf h'.bz (by decide)) _
  have hff := Lib.hid hf'
  clear h' hf hf'
  go_wp2_with fail
  go_ret
  exact .inr ⟨fb, rfl, a', 0, hs.out, hff.out⟩

set_option maxRecDepth 100000 in
set_option maxHeartbeats 2000000 in
theorem c3_ok (h : TS w g b a k z v W) (n : Nat) (hz : z = (n : Int)) (hn : a + n ≤ b.length) (F : Nat → World → Prop) :
    Calls Tryz.prog 197 #[.pointer (some ⟨w.heap.size, 0, none⟩), .pointer (some ⟨w.heap.size + 3, 0, none⟩), .pointer (some ⟨w.heap.size + 2, 0, none⟩)] W
      (Stp (fun W' => ∃ p, TS w g b (a + n) k z (.pointer (some ⟨p, 0, none⟩)) W' ∧ w.heap.size ≤ p ∧ Rdr W' p (cut b a n) 0 a) F) := by
  have HS := part_ok h.rdr n hn
  rw [← hz] at HS
  have c0 := h.br.cell 0
  have cz := h.bz.cell 0
  have HG := Lib.hid h.grow.size
  clear hz hn
  go_enter Tryz.func197, Tryz.ntmps197
  go_wp2_with fail
  refine HS.mono ?_
  rintro e W' ⟨p, rfl, hp, hg, hr, hq⟩
  have h' := h.move hg hr
  have c1 := h'.bt.cell 0
  have c2 := h'.bt.frozen 0
  have hs := Lib.hid (h'.setV (.pointer (some ⟨p, 0, none⟩)))
  have hq' := Lib.hid (h'.keepR (.pointer (some ⟨p, 0, none⟩)) hq)
  have hps := Lib.hid hp
  clear h c0 cz HS hg hr h' hq hp
  go_wp2_with fail
  go_ret
  refine .inl ⟨rfl, p, hs.out, Nat.le_trans HG.out hps.out, ?_⟩
  have := hq'.out
  rwa [Nat.zero_add] at this
set_option maxRecDepth 100000 in
set_option maxHeartbeats 2000000 in
theorem c3_short (h : TS w g b a k z v W) (n : Nat) (hz : z = (n : Int)) (hn : b.length < a + n) (R : World → Prop) :
    Calls Tryz.prog 197 #[.pointer (some ⟨w.heap.size, 0, none⟩), .pointer (some ⟨w.heap.size + 3, 0, none⟩), .pointer (some ⟨w.heap.size + 2, 0, none⟩)] W
      (Stp R fun fb W' => ∃ a' z, TS w g b a' k z (.pointer none) W' ∧ Flt W' fb 3 (a : Int)) := by
  have HS := part_short h.rdr z (by omega)
  have c0 := h.br.cell 0
  have cz := h.bz.cell 0
  clear hz hn
  go_enter Tryz.func197, Tryz.ntmps197
  go_wp2_with fail
  refine HS.mono ?_
  rintro e W' ⟨fb, rfl, hf, _, hg⟩
  have h' := h.move (only_weak hg _) (h.rdr.kept hg)
  have c1 := h'.bt.cell 0
  have c2 := h'.bt.frozen 0
  have hs := Lib.hid (h'.setV (.pointer none))
  have hff := Lib.hid (h'.keepF (.pointer none) hf)
  clear h c0 cz HS hg h' hf
  go_wp2_with fail
  go_ret
  refine .inr ⟨fb, rfl, a, z, hs.out, ?_⟩
  simpa using hff.out
end

theorem u8_of {k : Nat} (h : k < 256) : (k : Int) = ((UInt8.ofNat k).toNat : Int) := by rw [u8_ofNat h]

/-- A section that stands there. -/
theorem takeSec_ok {w : World} {g a : Nat} {b : List UInt8} (h : Rdr w g b a 0) (k j p n : Nat) (hk : k < 256) (hs : SecOk b k a j p n) :
    Calls Tryz.prog 171 #[.pointer (some ⟨g, 0, none⟩), .int .u8 (k : Int)] w fun e w' =>
      ∃ q, e = .returned (.tuple #[.pointer (some ⟨q, 0, none⟩), .nilIface]) ∧ w.heap.size ≤ q ∧ w.grownBy w' (some g) ∧ Rdr w' g b (p + n) 0 ∧ Rdr w' q (cut b p n) 0 p := by
  have hp := hs.at_
  refine (takeSec_of h (R := fun q W => ∃ z, TS w g b (p + n) k z (.pointer (some ⟨q, 0, none⟩)) W ∧ w.heap.size ≤ q ∧ Rdr W q (cut b p n) 0 p) (F := fun _ _ => False) ?_).mono ?_
  · intro W hW
    refine Calls.mono (first_sec hW.bf (R1 := TS w g b (a + 1) k 0 (.pointer none)) (R2 := TS w g b p k n (.pointer none)) (R3 := fun W' => ∃ q, TS w g b (p + n) k n (.pointer (some ⟨q, 0, none⟩)) W' ∧ w.heap.size ≤ q ∧ Rdr W' q (cut b p n) 0 p) (F := fun _ _ => False)
      (c1_ok hW _ hs.id (u8_of hk) _) (fun W1 h1 => ⟨h1.bf, ?_⟩) (fun W2 h2 => ⟨h2.bf, c3_ok h2 n rfl hs.fits _⟩)) ?_
    · have := small_ok h1.rdr j hs.taken hs.good 65536 ⟨by decide, by decide⟩ (by rw [hs.is]; have := hs.small; omega)
      rw [hs.is, ← hp] at this
      exact c2_ok h1 _ this
    · rintro e W' (⟨rfl, q, h1, h2, h3⟩ | ⟨fb, rfl, hf⟩)
      · exact .inl ⟨rfl, q, p + n, n, h1, n, h1, h2, h3⟩
      · exact hf.elim
  · rintro e w' (⟨q, a', z, W, ht, ⟨z', h1, h2, h3⟩, rfl, rfl⟩ | ⟨fb, a', z, W, ht, hf, _, _⟩)
    · have h1' := h1.setV (.pointer (some ⟨q, 0, none⟩))
      exact ⟨q, rfl, h2, h1'.grow, h1'.rdr, h1.keepR _ h3⟩
    · exact hf.elim

/-- What takeSection leaves with a fault. -/
def SecToldFault (g : Nat) (c x : Int) (w : World) (e : Ending) (w' : World) : Prop :=
  ∃ fb, e = .returned (.tuple #[.pointer none, .iface 94 (.pointer (some ⟨fb, 0, none⟩))]) ∧ Flt w' fb c x ∧ w.grownBy w' (some g) ∧ ∃ b a', Rdr w' g b a' 0
theorem takeSec_fault {w : World} {g a : Nat} {b : List UInt8} (h : Rdr w g b a 0) (k : Nat) (hk : k < 256) {c x : Int} (hs : SecFault b k a c x) :
    Calls Tryz.prog 171 #[.pointer (some ⟨g, 0, none⟩), .int .u8 (k : Int)] w (SecToldFault g c x w) := by
  refine (takeSec_of h (R := fun _ _ => False) (F := fun fb W => Flt W fb c x) ?_).mono ?_
  · intro W hW
    have fin : Calls Tryz.prog 50 #[.slice (some ⟨w.heap.size + 4, 0, none⟩) 3 3] W (Stp (fun _ => False) fun fb W' => ∃ a' z, TS w g b a' k z (.pointer none) W' ∧ Flt W' fb c x) := by
      cases hs with
      | lacks h1 => exact first_sec hW.bf (R1 := fun _ => False) (R2 := fun _ => False) (c1_lack hW h1 _) (fun _ h => h.elim) (fun _ h => h.elim)
      | other u h1 h2 =>
        refine first_sec hW.bf (R1 := fun _ => False) (R2 := fun _ => False) (c1_other hW u h1 (fun e => h2 ?_) _) (fun _ h => h.elim) (fun _ h => h.elim)
        apply UInt8.toNat_inj.1
        rw [u8_ofNat hk]; omega
      | ends h1 h2 =>
        refine first_sec hW.bf (R1 := TS w g b (a + 1) k 0 (.pointer none)) (R2 := fun _ => False) (c1_ok hW _ h1 (u8_of hk) _) (fun W1 t1 => ⟨t1.bf, ?_⟩) (fun _ h => h.elim)
        refine c2_fault t1 (a' := b.length) _ ?_
        have := small_fault (most := 65536) (place_step t1.rdr) (fun W2 hg => (u_ends (t1.rdr.kept hg) h2).mono (R' := FaultBeside .u64 fun fb W' => Flt W' fb 3 (b.length : Int) ∧ W1.heap.size ≤ fb ∧ W1.grownBy W' (some g) ∧ Rdr W' g b b.length 0) fun _ _ ⟨fb, e1, e2, e3, e4, e5⟩ => ⟨fb, e1, by simpa using e2, Nat.le_trans hg.size e3, only_trans (only_weak hg _) e4, e5⟩)
        exact this
      | wrong j h1 h2 h3 =>
        refine first_sec hW.bf (R1 := TS w g b (a + 1) k 0 (.pointer none)) (R2 := fun _ => False) (c1_ok hW _ h1 (u8_of hk) _) (fun W1 t1 => ⟨t1.bf, ?_⟩) (fun _ h => h.elim)
        refine c2_fault t1 (a' := a + 1 + j) _ ?_
        have := small_fault (most := 65536) (place_step t1.rdr) (fun W2 hg => (u_bad (t1.rdr.kept hg) j h2 h3).mono (R' := FaultBeside .u64 fun fb W' => Flt W' fb 5 ((a + 1 : Nat) : Int) ∧ W1.heap.size ≤ fb ∧ W1.grownBy W' (some g) ∧ Rdr W' g b (a + 1 + j) 0) fun _ _ ⟨fb, e1, e2, e3, e4, e5⟩ => ⟨fb, e1, by simpa using e2, Nat.le_trans hg.size e3, only_trans (only_weak hg _) e4, e5⟩)
        exact this
      | long j n h1 h2 h3 h4 h5 =>
        refine first_sec hW.bf (R1 := TS w g b (a + 1) k 0 (.pointer none)) (R2 := fun _ => False) (c1_ok hW _ h1 (u8_of hk) _) (fun W1 t1 => ⟨t1.bf, ?_⟩) (fun _ h => h.elim)
        have := small_long t1.rdr j h2 h3 65536 ⟨by decide, by decide⟩ (by rw [h4]; omega)
        rw [show ((0 : Nat) : Int) + ((a + 1 : Nat) : Int) = ((a + 1 : Nat) : Int) by omega] at this
        exact c2_fault t1 _ this
      | short j n h1 h2 h3 h4 h5 h6 =>
        refine first_sec hW.bf (R1 := TS w g b (a + 1) k 0 (.pointer none)) (R2 := TS w g b (a + 1 + j) k n (.pointer none)) (c1_ok hW _ h1 (u8_of hk) _) (fun W1 t1 => ⟨t1.bf, ?_⟩) (fun W2 t2 => ⟨t2.bf, c3_short t2 n rfl h6 _⟩)
        have := small_ok t1.rdr j h2 h3 65536 ⟨by decide, by decide⟩ (by rw [h4]; omega)
        rw [h4] at this
        exact c2_ok t1 _ this
    refine fin.mono ?_
    rintro e W' (⟨rfl, hr⟩ | h1)
    · exact hr.elim
    · exact .inr h1
  · rintro e w' (⟨q, a', z, W, ht, hr, _, _⟩ | ⟨fb, a', z, W, ht, hf, rfl, rfl⟩)
    · exact hr.elim
    · have h1' := ht.setV (.pointer none)
      exact ⟨fb, rfl, ht.keepF _ hf, h1'.grow, b, a', h1'.rdr⟩
end Go.Proofs.YtohhojbeclbedaaGreatDoor

namespace Go.Proofs.YtohhojbeclbedaaGreatDoor
open Go.RowKit

set_option maxRecDepth 100000 in
set_option maxHeartbeats 2000000 in
theorem takeHead_ok {w : World} {g : Nat} {b : List UInt8} (h : Rdr w g b 0 0) (hh : HeadOk b) :
    Calls Tryz.prog 52 #[.pointer (some ⟨g, 0, none⟩)] w fun e w' => e = .returned .nilIface ∧ w.grownBy w' (some g) ∧ Rdr w' g b 5 0 := by
  have b0 : b[0]? = some 67 := hh 0 (by omega)
  have b1 : b[1]? = some 76 := hh 1 (by omega)
  have b2 : b[2]? = some 81 := hh 2 (by omega)
  have b3 : b[3]? = some 89 := hh 3 (by omega)
  have b4 : b[4]? = some 1 := hh 4 (by omega)
  have hg0 := only_refl w (some g)
  clear hh
  go_enter Tryz.func52, Tryz.ntmps52
  go_wp2_with fail
  refine wp_loop_rounds 6 ?_
  rw [rounds_succ]
  go_wp2_with fail
  refine (expect_ok h 67 67 rfl b0 6 6).mono ?_
  rintro e w1 ⟨rfl, k1, r1⟩
  have hg1 := only_trans hg0 k1
  clear h hg0 k1 b0
  go_wp2_with fail
  rw [rounds_succ]
  go_wp2_with fail
  refine (expect_ok r1 76 76 rfl b1 6 6).mono ?_
  rintro e w2 ⟨rfl, k2, r2⟩
  have hg2 := only_trans hg1 k2
  clear r1 hg1 k2 b1
  go_wp2_with fail
  rw [rounds_succ]
  go_wp2_with fail
  refine (expect_ok r2 81 81 rfl b2 6 6).mono ?_
  rintro e w3 ⟨rfl, k3, r3⟩
  have hg3 := only_trans hg2 k3
  clear r2 hg2 k3 b2
  go_wp2_with fail
  rw [rounds_succ]
  go_wp2_with fail
  refine (expect_ok r3 89 89 rfl b3 6 6).mono ?_
  rintro e w4 ⟨rfl, k4, r4⟩
  have hg4 := only_trans hg3 k4
  clear r3 hg3 k4 b3
  go_wp2_with fail
  rw [rounds_succ]
  go_wp2_with fail
  refine (expect_ok r4 1 1 rfl b4 6 6).mono ?_
  rintro e w5 ⟨rfl, k5, r5⟩
  have hg5 := only_trans hg4 k5
  clear r4 hg4 k5 b4
  go_wp2_with fail
  rw [rounds_succ]
  go_wp2_with fail
  go_ret
  exact ⟨rfl, hg5, r5⟩

def HeadToldFault (g : Nat) (b : List UInt8) (x : Int) (w : World) (e : Ending) (w' : World) : Prop :=
  ∃ fb, e = .returned (.iface 94 (.pointer (some ⟨fb, 0, none⟩))) ∧ Flt w' fb 6 x ∧ w.grownBy w' (some g) ∧ ∃ a, Rdr w' g b a 0
theorem expect_not {w : World} {g a : Nat} {b : List UInt8} (h : Rdr w g b a 0) (u : UInt8) (v : Int) (hv : v = (u.toNat : Int)) (hn : b[a]? ≠ some u) :
    Calls Tryz.prog 123 #[.pointer (some ⟨g, 0, none⟩), .int .u8 v, .int .i64 6, .int .i64 6] w (HeadToldFault g b (a : Int) w) := by
  by_cases hl : a = b.length
  · exact (expect_lack h hl v 6 6).mono fun _ _ ⟨fb, h1, h2, _, h4⟩ => ⟨fb, h1, by simpa using h2, only_weak h4 _, a, h.kept h4⟩
  · have hlt : a < b.length := by have := h.le; omega
    refine (expect_other h b[a] (List.getElem?_eq_getElem hlt) v (fun e => hn ?_) 6 6).mono fun _ _ ⟨fb, h1, h2, _, h4, h5⟩ => ⟨fb, h1, by simpa using h2, h4, a + 1, h5⟩
    rw [List.getElem?_eq_getElem hlt]
    congr 1
    apply UInt8.toNat_inj.1
    omega

set_option maxRecDepth 100000 in
set_option maxHeartbeats 2000000 in
theorem takeHead_0 {w : World} {g : Nat} {b : List UInt8} (h : Rdr w g b 0 0) (hh : HeadFault b 0) :
    Calls Tryz.prog 52 #[.pointer (some ⟨g, 0, none⟩)] w (HeadToldFault g b (0 : Nat) w) := by
  have nb : b[0]? ≠ some 67 := hh.here
  have hg0 := only_refl w (some g)
  clear hh
  go_enter Tryz.func52, Tryz.ntmps52
  go_wp2_with fail
  refine wp_loop_rounds 6 ?_
  rw [rounds_succ]
  go_wp2_with fail
  refine (expect_not h 67 67 rfl nb).mono ?_
  rintro e wf ⟨fb, rfl, hf, kf, a, rf⟩
  have hF := Lib.hid hf
  have hgf := only_trans hg0 kf
  clear h hg0 kf nb hf
  go_wp2_with fail
  go_ret
  exact ⟨fb, rfl, hF.out, hgf, a, rf⟩

set_option maxRecDepth 100000 in
set_option maxHeartbeats 2000000 in
theorem takeHead_1 {w : World} {g : Nat} {b : List UInt8} (h : Rdr w g b 0 0) (hh : HeadFault b 1) :
    Calls Tryz.prog 52 #[.pointer (some ⟨g, 0, none⟩)] w (HeadToldFault g b (1 : Nat) w) := by
  have b0 : b[0]? = some 67 := hh.ahead 0 (by omega)
  have nb : b[1]? ≠ some 76 := hh.here
  have hg0 := only_refl w (some g)
  clear hh
  go_enter Tryz.func52, Tryz.ntmps52
  go_wp2_with fail
  refine wp_loop_rounds 6 ?_
  rw [rounds_succ]
  go_wp2_with fail
  refine (expect_ok h 67 67 rfl b0 6 6).mono ?_
  rintro e w1 ⟨rfl, k1, r1⟩
  have hg1 := only_trans hg0 k1
  clear h hg0 k1 b0
  go_wp2_with fail
  rw [rounds_succ]
  go_wp2_with fail
  refine (expect_not r1 76 76 rfl nb).mono ?_
  rintro e wf ⟨fb, rfl, hf, kf, a, rf⟩
  have hF := Lib.hid hf
  have hgf := only_trans hg1 kf
  clear r1 hg1 kf nb hf
  go_wp2_with fail
  go_ret
  exact ⟨fb, rfl, hF.out, hgf, a, rf⟩

set_option maxRecDepth 100000 in
set_option maxHeartbeats 2000000 in
theorem takeHead_2 {w : World} {g : Nat} {b : List UInt8} (h : Rdr w g b 0 0) (hh : HeadFault b 2) :
    Calls Tryz.prog 52 #[.pointer (some ⟨g, 0, none⟩)] w (HeadToldFault g b (2 : Nat) w) := by
  have b0 : b[0]? = some 67 := hh.ahead 0 (by omega)
  have b1 : b[1]? = some 76 := hh.ahead 1 (by omega)
  have nb : b[2]? ≠ some 81 := hh.here
  have hg0 := only_refl w (some g)
  clear hh
  go_enter Tryz.func52, Tryz.ntmps52
  go_wp2_with fail
  refine wp_loop_rounds 6 ?_
  rw [rounds_succ]
  go_wp2_with fail
  refine (expect_ok h 67 67 rfl b0 6 6).mono ?_
  rintro e w1 ⟨rfl, k1, r1⟩
  have hg1 := only_trans hg0 k1
  clear h hg0 k1 b0
  go_wp2_with fail
  rw [rounds_succ]
  go_wp2_with fail
  refine (expect_ok r1 76 76 rfl b1 6 6).mono ?_
  rintro e w2 ⟨rfl, k2, r2⟩
  have hg2 := only_trans hg1 k2
  clear r1 hg1 k2 b1
  go_wp2_with fail
  rw [rounds_succ]
  go_wp2_with fail
  refine (expect_not r2 81 81 rfl nb).mono ?_
  rintro e wf ⟨fb, rfl, hf, kf, a, rf⟩
  have hF := Lib.hid hf
  have hgf := only_trans hg2 kf
  clear r2 hg2 kf nb hf
  go_wp2_with fail
  go_ret
  exact ⟨fb, rfl, hF.out, hgf, a, rf⟩

set_option maxRecDepth 100000 in
set_option maxHeartbeats 2000000 in
theorem takeHead_3 {w : World} {g : Nat} {b : List UInt8} (h : Rdr w g b 0 0) (hh : HeadFault b 3) :
    Calls Tryz.prog 52 #[.pointer (some ⟨g, 0, none⟩)] w (HeadToldFault g b (3 : Nat) w) := by
  have b0 : b[0]? = some 67 := hh.ahead 0 (by omega)
  have b1 : b[1]? = some 76 := hh.ahead 1 (by omega)
  have b2 : b[2]? = some 81 := hh.ahead 2 (by omega)
  have nb : b[3]? ≠ some 89 := hh.here
  have hg0 := only_refl w (some g)
  clear hh
  go_enter Tryz.func52, Tryz.ntmps52
  go_wp2_with fail
  refine wp_loop_rounds 6 ?_
  rw [rounds_succ]
  go_wp2_with fail
  refine (expect_ok h 67 67 rfl b0 6 6).mono ?_
  rintro e w1 ⟨rfl, k1, r1⟩
  have hg1 := only_trans hg0 k1
  clear h hg0 k1 b0
  go_wp2_with fail
  rw [rounds_succ]
  go_wp2_with fail
  refine (expect_ok r1 76 76 rfl b1 6 6).mono ?_
  rintro e w2 ⟨rfl, k2, r2⟩
  have hg2 := only_trans hg1 k2
  clear r1 hg1 k2 b1
  go_wp2_with fail
  rw [rounds_succ]
  go_wp2_with fail
  refine (expect_ok r2 81 81 rfl b2 6 6).mono ?_
  rintro e w3 ⟨rfl, k3, r3⟩
  have hg3 := only_trans hg2 k3
  clear r2 hg2 k3 b2
  go_wp2_with fail
  rw [rounds_succ]
  go_wp2_with fail
  refine (expect_not r3 89 89 rfl nb).mono ?_
  rintro e wf ⟨fb, rfl, hf, kf, a, rf⟩
  have hF := Lib.hid hf
  have hgf := only_trans hg3 kf
  clear r3 hg3 kf nb hf
  go_wp2_with fail
  go_ret
  exact ⟨fb, rfl, hF.out, hgf, a, rf⟩

set_option maxRecDepth 100000 in
set_option maxHeartbeats 2000000 in
theorem takeHead_4 {w : World} {g : Nat} {b : List UInt8} (h : Rdr w g b 0 0) (hh : HeadFault b 4) :
    Calls Tryz.prog 52 #[.pointer (some ⟨g, 0, none⟩)] w (HeadToldFault g b (4 : Nat) w) := by
  have b0 : b[0]? = some 67 := hh.ahead 0 (by omega)
  have b1 : b[1]? = some 76 := hh.ahead 1 (by omega)
  have b2 : b[2]? = some 81 := hh.ahead 2 (by omega)
  have b3 : b[3]? = some 89 := hh.ahead 3 (by omega)
  have nb : b[4]? ≠ some 1 := hh.here
  have hg0 := only_refl w (some g)
  clear hh
  go_enter Tryz.func52, Tryz.ntmps52
  go_wp2_with fail
  refine wp_loop_rounds 6 ?_
  rw [rounds_succ]
  go_wp2_with fail
  refine (expect_ok h 67 67 rfl b0 6 6).mono ?_
  rintro e w1 ⟨rfl, k1, r1⟩
  have hg1 := only_trans hg0 k1
  clear h hg0 k1 b0
  go_wp2_with fail
  rw [rounds_succ]
  go_wp2_with fail
  refine (expect_ok r1 76 76 rfl b1 6 6).mono ?_
  rintro e w2 ⟨rfl, k2, r2⟩
  have hg2 := only_trans hg1 k2
  clear r1 hg1 k2 b1
  go_wp2_with fail
  rw [rounds_succ]
  go_wp2_with fail
  refine (expect_ok r2 81 81 rfl b2 6 6).mono ?_
  rintro e w3 ⟨rfl, k3, r3⟩
  have hg3 := only_trans hg2 k3
  clear r2 hg2 k3 b2
  go_wp2_with fail
  rw [rounds_succ]
  go_wp2_with fail
  refine (expect_ok r3 89 89 rfl b3 6 6).mono ?_
  rintro e w4 ⟨rfl, k4, r4⟩
  have hg4 := only_trans hg3 k4
  clear r3 hg3 k4 b3
  go_wp2_with fail
  rw [rounds_succ]
  go_wp2_with fail
  refine (expect_not r4 1 1 rfl nb).mono ?_
  rintro e wf ⟨fb, rfl, hf, kf, a, rf⟩
  have hF := Lib.hid hf
  have hgf := only_trans hg4 kf
  clear r4 hg4 kf nb hf
  go_wp2_with fail
  go_ret
  exact ⟨fb, rfl, hF.out, hgf, a, rf⟩

theorem takeHead_fault {w : World} {g : Nat} {b : List UInt8} (h : Rdr w g b 0 0) (i : Nat) (hh : HeadFault b i) :
    Calls Tryz.prog 52 #[.pointer (some ⟨g, 0, none⟩)] w (HeadToldFault g b (i : Int) w) := by
  have hi := hh.lt
  match i, hi with
  | 0, _ => exact takeHead_0 h hh
  | 1, _ => exact takeHead_1 h hh
  | 2, _ => exact takeHead_2 h hh
  | 3, _ => exact takeHead_3 h hh
  | 4, _ => exact takeHead_4 h hh
end Go.Proofs.YtohhojbeclbedaaGreatDoor

/- sect: takeSection: a section that stands there, and each fault. -/
import Derived.Test.YtjjfofifooailaaDoorSecE
import Derived.Laws.ResultCell
namespace Go.Proofs.YtjjfofifooailaaDoor
open Go.RowKit

/-- Within takeSection: the reader's place, the number asked for, the text's size, the text. -/
structure TS (w : World) (g : Nat) (b : List UInt8) (a : Nat) (k z : Int) (v : Value) (W : World) : Prop where
  lt : g < w.heap.size
  grow : w.grownBy W (some g)
  rdr : Rdr W g b a 0
  br : Blk W w.heap.size 36 #[.pointer (some ⟨g, 0, none⟩)]
  bn : Blk W (w.heap.size + 1) 5 #[.int .u8 k]
  bt : Blk W (w.heap.size + 2) 36 #[v]
  bz : Blk W (w.heap.size + 3) 3 #[.int .i64 z]
  bf : Blk W (w.heap.size + 4) 69 #[.func (.func 68) #[] #[.pointer (some ⟨w.heap.size, 0, none⟩), .pointer (some ⟨w.heap.size + 1, 0, none⟩)], .func (.func 69) #[] #[.pointer (some ⟨w.heap.size, 0, none⟩), .pointer (some ⟨w.heap.size + 3, 0, none⟩)], .func (.func 71) #[] #[.pointer (some ⟨w.heap.size, 0, none⟩), .pointer (some ⟨w.heap.size + 3, 0, none⟩), .pointer (some ⟨w.heap.size + 2, 0, none⟩)]]

section
variable {w W W' : World} {g a : Nat} {b : List UInt8} {k z : Int} {v : Value}
theorem TS.move (h : TS w g b a k z v W) (hg : W.grownBy W' (some g)) {a' : Nat} (hr : Rdr W' g b a' 0) : TS w g b a' k z v W' := by
  have hl := h.lt
  refine ⟨hl, only_trans h.grow hg, hr, h.br.grown hg ?_, h.bn.grown hg ?_, h.bt.grown hg ?_, h.bz.grown hg ?_, h.bf.grown hg ?_⟩ <;> (intro e; injection e with e; omega)
theorem TS.setZ (h : TS w g b a k z v W) (z' : Int) : TS w g b a k z' v (W.setCell ⟨w.heap.size + 3, 0, none⟩ (.int .i64 z')) := by
  have hl := h.lt
  have hg : W.grownBy (W.setCell ⟨w.heap.size + 3, 0, none⟩ (.int .i64 z')) (some (w.heap.size + 3)) := only_setCell (only_refl _ _) rfl _
  refine ⟨hl, only_setNew h.grow (by show w.heap.size ≤ w.heap.size + 3; omega) _, h.rdr.grown hg ?_ ?_, h.br.grown hg ?_, h.bn.grown hg ?_, h.bt.grown hg ?_, h.bz.set_ 0 _, h.bf.grown hg ?_⟩
  · intro e; injection e with e; omega
  · intro j e
    injection e with e
    subst e
    exact ⟨_, _, h.bz, by decide⟩
  all_goals (intro e; injection e with e; omega)
theorem TS.setV (h : TS w g b a k z v W) (v' : Value) : TS w g b a k z v' (W.setCell ⟨w.heap.size + 2, 0, none⟩ v') := by
  have hl := h.lt
  have hg : W.grownBy (W.setCell ⟨w.heap.size + 2, 0, none⟩ v') (some (w.heap.size + 2)) := only_setCell (only_refl _ _) rfl _
  refine ⟨hl, only_setNew h.grow (by show w.heap.size ≤ w.heap.size + 2; omega) _, h.rdr.grown hg ?_ ?_, h.br.grown hg ?_, h.bn.grown hg ?_, h.bt.set_ 0 _, h.bz.grown hg ?_, h.bf.grown hg ?_⟩
  · intro e; injection e with e; omega
  · intro j e
    injection e with e
    subst e
    exact ⟨_, _, h.bt, by decide⟩
  all_goals (intro e; injection e with e; omega)
/-- Another reader, and a fault, stay as the text is set. -/
theorem TS.keepR (h : TS w g b a k z v W) (v' : Value) {p q bg : Nat} {bs : List UInt8} (hp : Rdr W p bs q bg) : Rdr (W.setCell ⟨w.heap.size + 2, 0, none⟩ v') p bs q bg := by
  have hg : W.grownBy (W.setCell ⟨w.heap.size + 2, 0, none⟩ v') (some (w.heap.size + 2)) := only_setCell (only_refl _ _) rfl _
  obtain ⟨cs, hb⟩ := hp.blk
  refine hp.grown hg ?_ ?_
  · intro e; injection e with e; exact Blk.ne_ hb h.bt (by decide) e
  · intro j e
    injection e with e
    subst e
    exact ⟨_, _, h.bt, by decide⟩
theorem TS.keepF (h : TS w g b a k z v W) (v' : Value) {fb : Nat} {c x : Int} (hf : Flt W fb c x) : Flt (W.setCell ⟨w.heap.size + 2, 0, none⟩ v') fb c x := by
  have hg : W.grownBy (W.setCell ⟨w.heap.size + 2, 0, none⟩ v') (some (w.heap.size + 2)) := only_setCell (only_refl _ _) rfl _
  exact Blk.grown hf hg (fun e => by injection e with e; exact Blk.ne_ hf h.bt (by decide) e)
end

theorem Blk.new' {w : World} {n : Nat} (h : w.heap.size = n) (t : TypeId) (cs : Array Value) : Blk (w.alloc (.cells cs t)) n t cs := by subst h; exact Blk.new w t cs
theorem TS.start {w : World} {g a : Nat} {b : List UInt8} (h : Rdr w g b a 0) (k : Int) :
    TS w g b a k 0 (.pointer none) (((((w.alloc (.cells #[.pointer (some ⟨g, 0, none⟩)] 36)).alloc (.cells #[.int .u8 k] 5)).alloc (.cells #[.pointer none] 36)).alloc (.cells #[.int .i64 0] 3)).alloc (.cells #[.func (.func 68) #[] #[.pointer (some ⟨w.heap.size, 0, none⟩), .pointer (some ⟨w.heap.size + 1, 0, none⟩)], .func (.func 69) #[] #[.pointer (some ⟨w.heap.size, 0, none⟩), .pointer (some ⟨w.heap.size + 3, 0, none⟩)], .func (.func 71) #[] #[.pointer (some ⟨w.heap.size, 0, none⟩), .pointer (some ⟨w.heap.size + 3, 0, none⟩), .pointer (some ⟨w.heap.size + 2, 0, none⟩)]] 69)) := by
  have hg : w.grownBy (((((w.alloc (.cells #[.pointer (some ⟨g, 0, none⟩)] 36)).alloc (.cells #[.int .u8 k] 5)).alloc (.cells #[.pointer none] 36)).alloc (.cells #[.int .i64 0] 3)).alloc (.cells #[.func (.func 68) #[] #[.pointer (some ⟨w.heap.size, 0, none⟩), .pointer (some ⟨w.heap.size + 1, 0, none⟩)], .func (.func 69) #[] #[.pointer (some ⟨w.heap.size, 0, none⟩), .pointer (some ⟨w.heap.size + 3, 0, none⟩)], .func (.func 71) #[] #[.pointer (some ⟨w.heap.size, 0, none⟩), .pointer (some ⟨w.heap.size + 3, 0, none⟩), .pointer (some ⟨w.heap.size + 2, 0, none⟩)]] 69)) none := only_alloc (only_alloc (only_alloc (only_alloc (only_alloc (only_refl _ _) _) _) _) _) _
  refine ⟨h.lt, only_weak hg _, h.kept hg, ?_, ?_, ?_, ?_, ?_⟩
  · exact ((((Blk.new w _ _).alloc _).alloc _).alloc _).alloc _
  · exact (((Blk.new' (by simp) _ _).alloc _).alloc _).alloc _
  · exact ((Blk.new' (by simp) _ _).alloc _).alloc _
  · exact (Blk.new' (by simp) _ _).alloc _
  · exact Blk.new' (by simp) _ _
theorem sec_results {tmps : Array Value} {W : World} {tb : Nat} {v u : Value} (hp : tmps.getD 4 undef = .pointer (some ⟨tb, 0, none⟩)) (h5 : tmps.getD 5 undef = u) (hb : Blk W tb 36 #[v]) :
    (results Tryd.f64 tmps).run Tryd.prog W = .ok (.tuple #[v, u]) W := by
  have hc := hb.cell 0
  have hp' : tmps[4]?.getD undef = .pointer (some ⟨tb, 0, none⟩) := by simpa using hp
  have h5' : tmps[5]?.getD undef = u := by simpa using h5
  simp [results, Tryd.results64, hp', h5', go_sem, hc]

set_option maxRecDepth 100000 in
set_option maxHeartbeats 2000000 in
/-- takeSection, out of its three steps. -/
theorem takeSec_of {w : World} {g a : Nat} {b : List UInt8} {k : Int} (h : Rdr w g b a 0) {R : Nat → World → Prop} {F : Nat → World → Prop}
    (H : ∀ W, TS w g b a k 0 (.pointer none) W → Calls Tryd.prog 27 #[.slice (some ⟨w.heap.size + 4, 0, none⟩) 3 3] W (Stp (fun W' => ∃ p a' z, TS w g b a' k z (.pointer (some ⟨p, 0, none⟩)) W' ∧ R p W') (fun fb W' => ∃ a' z, TS w g b a' k z (.pointer none) W' ∧ F fb W'))) :
    Calls Tryd.prog 64 #[.pointer (some ⟨g, 0, none⟩), .int .u8 k] w fun e w' =>
      (∃ p a' z W, TS w g b a' k z (.pointer (some ⟨p, 0, none⟩)) W ∧ R p W ∧ e = .returned (.tuple #[.pointer (some ⟨p, 0, none⟩), .nilIface]) ∧ w' = W.setCell ⟨w.heap.size + 2, 0, none⟩ (.pointer (some ⟨p, 0, none⟩))) ∨
      (∃ fb a' z W, TS w g b a' k z (.pointer none) W ∧ F fb W ∧ e = .returned (.tuple #[.pointer none, .iface 74 (.pointer (some ⟨fb, 0, none⟩))]) ∧ w' = W.setCell ⟨w.heap.size + 2, 0, none⟩ (.pointer none)) := by
  have hmf : ∀ (fn : Fn) (first cap : Array Value) (w : World), (Instr.makeFunc fn first cap).run Tryd.prog w = .ok (.func fn first cap) w := fun _ _ _ _ => rfl
  go_enter Tryd.func64, Tryd.ntmps64
  go_wp2_with fail
  refine (H _ ?_).mono ?_
  · exact TS.start h k
  rintro e W' (⟨rfl, p, a', z, ht, hr⟩ | ⟨fb, rfl, a', z, ht, hf⟩)
  · have c1 := ht.bt.cell 0
    have c2 := ht.bt.frozen 0
    go_wp2_with fail
    exact bodyPost_ret (sec_results rfl rfl (ht.setV _).bt) rfl (.inl ⟨p, a', z, W', ht, hr, rfl, rfl⟩)
  · have c1 := ht.bt.cell 0
    have c2 := ht.bt.frozen 0
    go_wp2_with fail
    exact bodyPost_ret (sec_results rfl rfl (ht.setV _).bt) rfl (.inr ⟨fb, a', z, W', ht, hf, rfl, rfl⟩)
end Go.Proofs.YtjjfofifooailaaDoor

/- sect: the three steps of takeSection, and what takeSection answers. -/
import Derived.Test.YtjjfofifooailaaDoorSecT
namespace Go.Proofs.YtjjfofifooailaaDoor
open Go.RowKit

section
variable {w W : World} {g a : Nat} {b : List UInt8} {k z : Int} {v : Value}

set_option maxRecDepth 100000 in
set_option maxHeartbeats 2000000 in
theorem c1_of (h : TS w g b a k z v W) {R : World → Prop} {F : Nat → World → Prop}
    (HE : Calls Tryd.prog 44 #[.pointer (some ⟨g, 0, none⟩), .int .u8 k, .int .i64 3, .int .i64 7] W (Stp R F)) :
    Calls Tryd.prog 68 #[.pointer (some ⟨w.heap.size, 0, none⟩), .pointer (some ⟨w.heap.size + 1, 0, none⟩)] W (Stp R F) := by
  have c0 := h.br.cell 0
  have c1 := h.bn.cell 0
  clear h
  go_enter Tryd.func68, Tryd.ntmps68
  go_wp2_with fail
  refine HE.mono ?_
  rintro e W' (⟨rfl, hr⟩ | ⟨fb, rfl, hf⟩)
  · go_wp2_with fail
    go_ret
    exact .inl ⟨rfl, hr⟩
  · go_wp2_with fail
    go_ret
    exact .inr ⟨fb, rfl, hf⟩
theorem c1_ok (h : TS w g b a k z v W) (u : UInt8) (hu : b[a]? = some u) (hk : k = (u.toNat : Int)) (F : Nat → World → Prop) :
    Calls Tryd.prog 68 #[.pointer (some ⟨w.heap.size, 0, none⟩), .pointer (some ⟨w.heap.size + 1, 0, none⟩)] W (Stp (TS w g b (a + 1) k z v) F) :=
  c1_of h ((expect_ok h.rdr u k hk hu 3 7).mono fun _ _ ⟨h1, h2, h3⟩ => .inl ⟨h1, h.move h2 h3⟩)
theorem c1_lack (h : TS w g b a k z v W) (ha : a = b.length) (R : World → Prop) :
    Calls Tryd.prog 68 #[.pointer (some ⟨w.heap.size, 0, none⟩), .pointer (some ⟨w.heap.size + 1, 0, none⟩)] W (Stp R fun fb W' => ∃ a' z, TS w g b a' k z v W' ∧ Flt W' fb 3 (a : Int)) :=
  c1_of h ((expect_lack h.rdr ha k 3 7).mono fun _ _ ⟨fb, h1, h2, _, h4⟩ => .inr ⟨fb, h1, a, z, h.move (only_weak h4 _) (h.rdr.kept h4), by simpa using h2⟩)
theorem c1_other (h : TS w g b a k z v W) (u : UInt8) (hu : b[a]? = some u) (hk : k ≠ (u.toNat : Int)) (R : World → Prop) :
    Calls Tryd.prog 68 #[.pointer (some ⟨w.heap.size, 0, none⟩), .pointer (some ⟨w.heap.size + 1, 0, none⟩)] W (Stp R fun fb W' => ∃ a' z, TS w g b a' k z v W' ∧ Flt W' fb 7 (a : Int)) :=
  c1_of h ((expect_other h.rdr u hu k hk 3 7).mono fun _ _ ⟨fb, h1, h2, _, h4, h5⟩ => .inr ⟨fb, h1, a + 1, z, h.move h4 h5, by simpa using h2⟩)

set_option maxRecDepth 100000 in
set_option maxHeartbeats 2000000 in
theorem c2_ok (h : TS w g b a k z v W) {n : Int} {a' : Nat} (F : Nat → World → Prop)
    (HS : Calls Tryd.prog 70 #[.pointer (some ⟨g, 0, none⟩), .int .i64 65536] W fun e W' => e = .returned (.tuple #[.int .i64 n, .nilIface]) ∧ W.grownBy W' (some g) ∧ Rdr W' g b a' 0) :
    Calls Tryd.prog 69 #[.pointer (some ⟨w.heap.size, 0, none⟩), .pointer (some ⟨w.heap.size + 3, 0, none⟩)] W (Stp (TS w g b a' k n v) F) := by
  have c0 := h.br.cell 0
  go_enter Tryd.func69, Tryd.ntmps69
  go_wp2_with fail
  refine HS.mono ?_
  rintro e W' ⟨rfl, hg, hr⟩
  have h' := h.move hg hr
  have c1 := h'.bz.cell 0
  have c2 := h'.bz.frozen 0
  clear h c0 HS hg hr
  have hs := Lib.hid (h'.setZ n)
  clear h'
  go_wp2_with fail
  go_ret
  exact .inl ⟨rfl, hs.out⟩
set_option maxRecDepth 100000 in
set_option maxHeartbeats 2000000 in
theorem c2_fault (h : TS w g b a k z v W) {c x : Int} {a' : Nat} (R : World → Prop)
    (HS : Calls Tryd.prog 70 #[.pointer (some ⟨g, 0, none⟩), .int .i64 65536] W (FaultBeside .i64 fun fb W' => Flt W' fb c x ∧ W.heap.size ≤ fb ∧ W.grownBy W' (some g) ∧ Rdr W' g b a' 0)) :
    Calls Tryd.prog 69 #[.pointer (some ⟨w.heap.size, 0, none⟩), .pointer (some ⟨w.heap.size + 3, 0, none⟩)] W (Stp R fun fb W' => ∃ a' z, TS w g b a' k z v W' ∧ Flt W' fb c x) := by
  have c0 := h.br.cell 0
  go_enter Tryd.func69, Tryd.ntmps69
  go_wp2_with fail
  refine HS.mono ?_
  rintro e W' ⟨fb, rfl, hf, _, hg, hr⟩
  have h' := h.move hg hr
  have c1 := h'.bz.cell 0
  have c2 := h'.bz.frozen 0
  clear h c0 HS hg hr
  have hs := Lib.hid (h'.setZ 0)
  have hf' : Flt (W'.setCell ⟨w.heap.size + 3, 0, none⟩ (.int .i64 0)) fb c x := Blk.far hf (p := ⟨w.heap.size + 3, 0, none⟩) (Blk.ne_ hf h'.bz (by decide)) _
  have hff := Lib.hid hf'
  clear h' hf hf'
  go_wp2_with fail
  go_ret
  exact .inr ⟨fb, rfl, a', 0, hs.out, hff.out⟩

set_option maxRecDepth 100000 in
set_option maxHeartbeats 2000000 in
theorem c3_ok (h : TS w g b a k z v W) (n : Nat) (hz : z = (n : Int)) (hn : a + n ≤ b.length) (F : Nat → World → Prop) :
    Calls Tryd.prog 71 #[.pointer (some ⟨w.heap.size, 0, none⟩), .pointer (some ⟨w.heap.size + 3, 0, none⟩), .pointer (some ⟨w.heap.size + 2, 0, none⟩)] W
      (Stp (fun W' => ∃ p, TS w g b (a + n) k z (.pointer (some ⟨p, 0, none⟩)) W' ∧ w.heap.size ≤ p ∧ Rdr W' p (cut b a n) 0 a) F) := by
  have HS := part_ok h.rdr n hn
  rw [← hz] at HS
  have c0 := h.br.cell 0
  have cz := h.bz.cell 0
  have HG := Lib.hid h.grow.size
  clear hz hn
  go_enter Tryd.func71, Tryd.ntmps71
  go_wp2_with fail
  refine HS.mono ?_
  rintro e W' ⟨p, rfl, hp, hg, hr, hq⟩
  have h' := h.move hg hr
  have c1 := h'.bt.cell 0
  have c2 := h'.bt.frozen 0
  have hs := Lib.hid (h'.setV (.pointer (some ⟨p, 0, none⟩)))
  have hq' := Lib.hid (h'.keepR (.pointer (some ⟨p, 0, none⟩)) hq)
  have hps := Lib.hid hp
  clear h c0 cz HS hg hr h' hq hp
  go_wp2_with fail
  go_ret
  refine .inl ⟨rfl, p, hs.out, Nat.le_trans HG.out hps.out, ?_⟩
  have := hq'.out
  rwa [Nat.zero_add] at this
set_option maxRecDepth 100000 in
set_option maxHeartbeats 2000000 in
theorem c3_short (h : TS w g b a k z v W) (n : Nat) (hz : z = (n : Int)) (hn : b.length < a + n) (R : World → Prop) :
    Calls Tryd.prog 71 #[.pointer (some ⟨w.heap.size, 0, none⟩), .pointer (some ⟨w.heap.size + 3, 0, none⟩), .pointer (some ⟨w.heap.size + 2, 0, none⟩)] W
      (Stp R fun fb W' => ∃ a' z, TS w g b a' k z (.pointer none) W' ∧ Flt W' fb 3 (a : Int)) := by
  have HS := part_short h.rdr z (by omega)
  have c0 := h.br.cell 0
  have cz := h.bz.cell 0
  clear hz hn
  go_enter Tryd.func71, Tryd.ntmps71
  go_wp2_with fail
  refine HS.mono ?_
  rintro e W' ⟨fb, rfl, hf, _, hg⟩
  have h' := h.move (only_weak hg _) (h.rdr.kept hg)
  have c1 := h'.bt.cell 0
  have c2 := h'.bt.frozen 0
  have hs := Lib.hid (h'.setV (.pointer none))
  have hff := Lib.hid (h'.keepF (.pointer none) hf)
  clear h c0 cz HS hg h' hf
  go_wp2_with fail
  go_ret
  refine .inr ⟨fb, rfl, a, z, hs.out, ?_⟩
  simpa using hff.out
end

theorem u8_of {k : Nat} (h : k < 256) : (k : Int) = ((UInt8.ofNat k).toNat : Int) := by rw [u8_ofNat h]

/-- A section that stands there. -/
theorem takeSec_ok {w : World} {g a : Nat} {b : List UInt8} (h : Rdr w g b a 0) (k j p n : Nat) (hk : k < 256) (hs : SecOk b k a j p n) :
    Calls Tryd.prog 64 #[.pointer (some ⟨g, 0, none⟩), .int .u8 (k : Int)] w fun e w' =>
      ∃ q, e = .returned (.tuple #[.pointer (some ⟨q, 0, none⟩), .nilIface]) ∧ w.heap.size ≤ q ∧ w.grownBy w' (some g) ∧ Rdr w' g b (p + n) 0 ∧ Rdr w' q (cut b p n) 0 p := by
  have hp := hs.at_
  refine (takeSec_of h (R := fun q W => ∃ z, TS w g b (p + n) k z (.pointer (some ⟨q, 0, none⟩)) W ∧ w.heap.size ≤ q ∧ Rdr W q (cut b p n) 0 p) (F := fun _ _ => False) ?_).mono ?_
  · intro W hW
    refine Calls.mono (first_sec hW.bf (R1 := TS w g b (a + 1) k 0 (.pointer none)) (R2 := TS w g b p k n (.pointer none)) (R3 := fun W' => ∃ q, TS w g b (p + n) k n (.pointer (some ⟨q, 0, none⟩)) W' ∧ w.heap.size ≤ q ∧ Rdr W' q (cut b p n) 0 p) (F := fun _ _ => False)
      (c1_ok hW _ hs.id (u8_of hk) _) (fun W1 h1 => ⟨h1.bf, ?_⟩) (fun W2 h2 => ⟨h2.bf, c3_ok h2 n rfl hs.fits _⟩)) ?_
    · have := small_ok h1.rdr j hs.taken hs.good 65536 ⟨by decide, by decide⟩ (by rw [hs.is]; have := hs.small; omega)
      rw [hs.is, ← hp] at this
      exact c2_ok h1 _ this
    · rintro e W' (⟨rfl, q, h1, h2, h3⟩ | ⟨fb, rfl, hf⟩)
      · exact .inl ⟨rfl, q, p + n, n, h1, n, h1, h2, h3⟩
      · exact hf.elim
  · rintro e w' (⟨q, a', z, W, ht, ⟨z', h1, h2, h3⟩, rfl, rfl⟩ | ⟨fb, a', z, W, ht, hf, _, _⟩)
    · have h1' := h1.setV (.pointer (some ⟨q, 0, none⟩))
      exact ⟨q, rfl, h2, h1'.grow, h1'.rdr, h1.keepR _ h3⟩
    · exact hf.elim

/-- What takeSection leaves with a fault. -/
def SecToldFault (g : Nat) (c x : Int) (w : World) (e : Ending) (w' : World) : Prop :=
  ∃ fb, e = .returned (.tuple #[.pointer none, .iface 74 (.pointer (some ⟨fb, 0, none⟩))]) ∧ Flt w' fb c x ∧ w.grownBy w' (some g) ∧ ∃ b a', Rdr w' g b a' 0
theorem takeSec_fault {w : World} {g a : Nat} {b : List UInt8} (h : Rdr w g b a 0) (k : Nat) (hk : k < 256) {c x : Int} (hs : SecFault b k a c x) :
    Calls Tryd.prog 64 #[.pointer (some ⟨g, 0, none⟩), .int .u8 (k : Int)] w (SecToldFault g c x w) := by
  refine (takeSec_of h (R := fun _ _ => False) (F := fun fb W => Flt W fb c x) ?_).mono ?_
  · intro W hW
    have fin : Calls Tryd.prog 27 #[.slice (some ⟨w.heap.size + 4, 0, none⟩) 3 3] W (Stp (fun _ => False) fun fb W' => ∃ a' z, TS w g b a' k z (.pointer none) W' ∧ Flt W' fb c x) := by
      cases hs with
      | lacks h1 => exact first_sec hW.bf (R1 := fun _ => False) (R2 := fun _ => False) (c1_lack hW h1 _) (fun _ h => h.elim) (fun _ h => h.elim)
      | other u h1 h2 =>
        refine first_sec hW.bf (R1 := fun _ => False) (R2 := fun _ => False) (c1_other hW u h1 (fun e => h2 ?_) _) (fun _ h => h.elim) (fun _ h => h.elim)
        apply UInt8.toNat_inj.1
        rw [u8_ofNat hk]; omega
      | ends h1 h2 =>
        refine first_sec hW.bf (R1 := TS w g b (a + 1) k 0 (.pointer none)) (R2 := fun _ => False) (c1_ok hW _ h1 (u8_of hk) _) (fun W1 t1 => ⟨t1.bf, ?_⟩) (fun _ h => h.elim)
        refine c2_fault t1 (a' := b.length) _ ?_
        have := small_fault (most := 65536) (place_step t1.rdr) (fun W2 hg => (u_ends (t1.rdr.kept hg) h2).mono (R' := FaultBeside .u64 fun fb W' => Flt W' fb 3 (b.length : Int) ∧ W1.heap.size ≤ fb ∧ W1.grownBy W' (some g) ∧ Rdr W' g b b.length 0) fun _ _ ⟨fb, e1, e2, e3, e4, e5⟩ => ⟨fb, e1, by simpa using e2, Nat.le_trans hg.size e3, only_trans (only_weak hg _) e4, e5⟩)
        exact this
      | wrong j h1 h2 h3 =>
        refine first_sec hW.bf (R1 := TS w g b (a + 1) k 0 (.pointer none)) (R2 := fun _ => False) (c1_ok hW _ h1 (u8_of hk) _) (fun W1 t1 => ⟨t1.bf, ?_⟩) (fun _ h => h.elim)
        refine c2_fault t1 (a' := a + 1 + j) _ ?_
        have := small_fault (most := 65536) (place_step t1.rdr) (fun W2 hg => (u_bad (t1.rdr.kept hg) j h2 h3).mono (R' := FaultBeside .u64 fun fb W' => Flt W' fb 5 ((a + 1 : Nat) : Int) ∧ W1.heap.size ≤ fb ∧ W1.grownBy W' (some g) ∧ Rdr W' g b (a + 1 + j) 0) fun _ _ ⟨fb, e1, e2, e3, e4, e5⟩ => ⟨fb, e1, by simpa using e2, Nat.le_trans hg.size e3, only_trans (only_weak hg _) e4, e5⟩)
        exact this
      | long j n h1 h2 h3 h4 h5 =>
        refine first_sec hW.bf (R1 := TS w g b (a + 1) k 0 (.pointer none)) (R2 := fun _ => False) (c1_ok hW _ h1 (u8_of hk) _) (fun W1 t1 => ⟨t1.bf, ?_⟩) (fun _ h => h.elim)
        have := small_long t1.rdr j h2 h3 65536 ⟨by decide, by decide⟩ (by rw [h4]; omega)
        rw [show ((0 : Nat) : Int) + ((a + 1 : Nat) : Int) = ((a + 1 : Nat) : Int) by omega] at this
        exact c2_fault t1 _ this
      | short j n h1 h2 h3 h4 h5 h6 =>
        refine first_sec hW.bf (R1 := TS w g b (a + 1) k 0 (.pointer none)) (R2 := TS w g b (a + 1 + j) k n (.pointer none)) (c1_ok hW _ h1 (u8_of hk) _) (fun W1 t1 => ⟨t1.bf, ?_⟩) (fun W2 t2 => ⟨t2.bf, c3_short t2 n rfl h6 _⟩)
        have := small_ok t1.rdr j h2 h3 65536 ⟨by decide, by decide⟩ (by rw [h4]; omega)
        rw [h4] at this
        exact c2_ok t1 _ this
    refine fin.mono ?_
    rintro e W' (⟨rfl, hr⟩ | h1)
    · exact hr.elim
    · exact .inr h1
  · rintro e w' (⟨q, a', z, W, ht, hr, _, _⟩ | ⟨fb, a', z, W, ht, hf, rfl, rfl⟩)
    · exact hr.elim
    · have h1' := ht.setV (.pointer none)
      exact ⟨fb, rfl, ht.keepF _ hf, h1'.grow, b, a', h1'.rdr⟩
end Go.Proofs.YtjjfofifooailaaDoor

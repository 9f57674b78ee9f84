/- The document's answer for sections (colloquyref03): Split. -/
import Derived.Test.YtjjfofifooailaaDoorRefS
import Derived.Test.YtjjfofifooailaaDoorRefC
import Derived.Test.YtjjfofifooailaaDoorSecS
import Derived.LoopTactic
import Derived.Deep.LoopGhost
import Derived.Deep.DeepCutAuto
import Derived.Deep.CutBlock
import Derived.BigQuiet
namespace Go.Proofs.YtjjfofifooailaaDoor
open Go.RowKit

def rtxt (pre : List Sx) (i : Nat) : Value := match pre[i]? with | some (.ok q _ _) => .pointer (some ⟨q, 0, none⟩) | _ => .pointer none
/-- The blocks of Split: its results, none, out. -/
structure RB (n0 : Nat) (v1 v2 v3 : Value) (W : World) : Prop where
  b0 : Blk W n0 54 #[.pointer none, .pointer none, .pointer none]
  b1 : Blk W (n0 + 1) 47 #[.int .i64 0, .int .i64 0]
  b2 : Blk W (n0 + 2) 54 #[.pointer none, .pointer none, .pointer none]
  b3 : Blk W (n0 + 3) 54 #[v1, v2, v3]
theorem RB.grown {n0 : Nat} {v1 v2 v3 : Value} {W W' : World} {row : Option Nat} (h : RB n0 v1 v2 v3 W) (hg : W.grownBy W' row) (hr : ∀ g, row = some g → n0 + 3 < g) : RB n0 v1 v2 v3 W' :=
  ⟨h.b0.grown hg (fun e => by have := hr n0 e.symm; omega), h.b1.grown hg (fun e => by have := hr _ e.symm; omega), h.b2.grown hg (fun e => by have := hr _ e.symm; omega), h.b3.grown hg (fun e => by have := hr _ e.symm; omega)⟩
theorem RB.start (w : World) : RB w.heap.size (.pointer none) (.pointer none) (.pointer none) ((((w.alloc (.cells #[.pointer none, .pointer none, .pointer none] 54)).alloc (.cells #[.int .i64 0, .int .i64 0] 47)).alloc (.cells #[.pointer none, .pointer none, .pointer none] 54)).alloc (.cells #[.pointer none, .pointer none, .pointer none] 54)) :=
  ⟨(((Blk.new w _ _).alloc _).alloc _).alloc _, ((Blk.new' (by simp) _ _).alloc _).alloc _, (Blk.new' (by simp) _ _).alloc _, Blk.new' (by simp) _ _⟩
theorem rarr_size : (Tryd.prog.info? 54).map (·.size) = some 3 := by kernel_rfl
theorem flt_size : (Tryd.prog.info? 47).map (·.size) = some 2 := by kernel_rfl
theorem rs_results {tmps : Array Value} {W : World} {n0 : Nat} {v1 v2 v3 c x : Value} (hp : tmps.getD 2 undef = .pointer (some ⟨n0, 0, none⟩)) (h3 : tmps.getD 3 undef = .pointer (some ⟨n0 + 1, 0, none⟩))
    (hb : Blk W n0 54 #[v1, v2, v3]) (hf : Blk W (n0 + 1) 47 #[c, x]) :
    (results Tryd.f19 tmps).run Tryd.prog W = .ok (.tuple #[.agg #[v1, v2, v3], .agg #[c, x]]) W := by
  have hp' : tmps[2]?.getD undef = .pointer (some ⟨n0, 0, none⟩) := by simpa using hp
  have h3' : tmps[3]?.getD undef = .pointer (some ⟨n0 + 1, 0, none⟩) := by simpa using h3
  simp [results, Tryd.results19, hp', h3', asAddr, run_loadVar_row W n0 _ 54 _ _ _ hb Tryd.underlying54 rfl rarr_size, run_loadVar_row W (n0 + 1) _ 47 _ _ _ hf Tryd.underlying47 rfl flt_size]
/-- What Split of the document answers. -/
def RSplits (b : List UInt8) (w : World) (e : Ending) (w' : World) : Prop :=
  (∃ (x : Parts) (q1 q2 q3 : Nat), SplitOk b x ∧ e = .returned (.tuple #[.agg #[.pointer (some ⟨q1, 0, none⟩), .pointer (some ⟨q2, 0, none⟩), .pointer (some ⟨q3, 0, none⟩)], .agg #[.int .i64 0, .int .i64 0]]) ∧ w.grownBy w' none ∧
    RefR w' q1 (cut b x.p1 x.n1) 0 x.p1 ∧ RefR w' q2 (cut b x.p2 x.n2) 0 x.p2 ∧ RefR w' q3 (cut b x.p3 x.n3) 0 x.p3) ∨
  (∃ c y, SplitFault b c y ∧ e = .returned (.tuple #[.agg #[.pointer none, .pointer none, .pointer none], .agg #[.int .i64 c, .int .i64 y]]) ∧ w.grownBy w' none)

/-- The results are set. -/
def rsW (W : World) (n0 : Nat) (v1 v2 v3 c x : Value) : World := ((((W.setCell ⟨n0, 0, none⟩ v1).setCell ⟨n0, 1, none⟩ v2).setCell ⟨n0, 2, none⟩ v3).setCell ⟨n0 + 1, 0, none⟩ c).setCell ⟨n0 + 1, 1, none⟩ x
theorem rs_end' {w W : World} {u1 u2 u3 : Value} (h : RB w.heap.size u1 u2 u3 W) (hg : w.grownBy W none) (v1 v2 v3 c x : Value) :
    Blk (rsW W w.heap.size v1 v2 v3 c x) w.heap.size 54 #[v1, v2, v3] ∧ Blk (rsW W w.heap.size v1 v2 v3 c x) (w.heap.size + 1) 47 #[c, x] ∧ w.grownBy (rsW W w.heap.size v1 v2 v3 c x) none := by
  unfold rsW
  refine ⟨?_, ?_, ?_⟩
  · exact ((((h.b0.set_ 0 v1).set_ 1 v2).set_ 2 v3).far (p := ⟨w.heap.size + 1, 0, none⟩) (by show w.heap.size ≠ w.heap.size + 1; omega) c).far (p := ⟨w.heap.size + 1, 1, none⟩) (by show w.heap.size ≠ w.heap.size + 1; omega) x
  · exact ((((h.b1.far (p := ⟨w.heap.size, 0, none⟩) (by show w.heap.size + 1 ≠ w.heap.size; omega) v1).far (p := ⟨w.heap.size, 1, none⟩) (by show w.heap.size + 1 ≠ w.heap.size; omega) v2).far (p := ⟨w.heap.size, 2, none⟩) (by show w.heap.size + 1 ≠ w.heap.size; omega) v3).set_ 0 c).set_ 1 x
  · exact only_setNew (only_setNew (only_setNew (only_setNew (only_setNew hg (p := ⟨w.heap.size, 0, none⟩) (Nat.le_refl _) v1) (p := ⟨w.heap.size, 1, none⟩) (Nat.le_refl _) v2) (p := ⟨w.heap.size, 2, none⟩) (Nat.le_refl _) v3) (p := ⟨w.heap.size + 1, 0, none⟩) (by show w.heap.size ≤ w.heap.size + 1; omega) c) (p := ⟨w.heap.size + 1, 1, none⟩) (by show w.heap.size ≤ w.heap.size + 1; omega) x
/-- What the walk reads of the blocks. -/
theorem RB.read {n0 : Nat} {v1 v2 v3 : Value} {W : World} (h : RB n0 v1 v2 v3 W) :
    W.cell? ⟨n0, 0, none⟩ = some (.pointer none) ∧ W.cell? ⟨n0, 1, none⟩ = some (.pointer none) ∧ W.cell? ⟨n0, 2, none⟩ = some (.pointer none) ∧
    W.frozen? ⟨n0, 0, none⟩ = false ∧ W.frozen? ⟨n0, 1, none⟩ = false ∧ W.frozen? ⟨n0, 2, none⟩ = false ∧
    W.cell? ⟨n0 + 1, 0, none⟩ = some (.int .i64 0) ∧ W.cell? ⟨n0 + 1, 1, none⟩ = some (.int .i64 0) ∧ W.frozen? ⟨n0 + 1, 0, none⟩ = false ∧ W.frozen? ⟨n0 + 1, 1, none⟩ = false ∧
    W.cell? ⟨n0 + 1 + 1, 0, none⟩ = some (.pointer none) ∧ W.cell? ⟨n0 + 1 + 1, 1, none⟩ = some (.pointer none) ∧ W.cell? ⟨n0 + 1 + 1, 2, none⟩ = some (.pointer none) :=
  ⟨h.b0.cell 0, h.b0.cell 1, h.b0.cell 2, h.b0.frozen 0, h.b0.frozen 1, h.b0.frozen 2, h.b1.cell 0, h.b1.cell 1, h.b1.frozen 0, h.b1.frozen 1, h.b2.cell 0, h.b2.cell 1, h.b2.cell 2⟩
theorem RB.out_ {n0 : Nat} {v1 v2 v3 : Value} {W : World} (h : RB n0 v1 v2 v3 W) : W.cell? ⟨n0 + 1 + 1 + 1, 0, none⟩ = some v1 ∧ W.cell? ⟨n0 + 1 + 1 + 1, 1, none⟩ = some v2 ∧ W.cell? ⟨n0 + 1 + 1 + 1, 2, none⟩ = some v3 := ⟨h.b3.cell 0, h.b3.cell 1, h.b3.cell 2⟩
theorem rtxt_0 (q1 p1 n1 : Nat) (l : List Sx) : rtxt (.ok q1 p1 n1 :: l) 0 = .pointer (some ⟨q1, 0, none⟩) := rfl
theorem rtxt_1 (s : Sx) (q1 p1 n1 : Nat) (l : List Sx) : rtxt (s :: .ok q1 p1 n1 :: l) 1 = .pointer (some ⟨q1, 0, none⟩) := rfl
theorem rtxt_2 (s s' : Sx) (q1 p1 n1 : Nat) (l : List Sx) : rtxt (s :: s' :: .ok q1 p1 n1 :: l) 2 = .pointer (some ⟨q1, 0, none⟩) := rfl
theorem RB.drew {n0 : Nat} {v1 v2 v3 : Value} {W : World} (h : RB n0 v1 v2 v3 W) : RB n0 v1 v2 v3 W.drew := h.grown (only_drew (only_refl W none)) (fun _ e => by cases e)
/-- What the walk reads of a fault. -/
theorem flt_read {b : Nat} {c x : Value} {W : World} (h : Blk W b 47 #[c, x]) :
    W.cell? ⟨b, 0, none⟩ = some c ∧ W.cell? ⟨b, 1, none⟩ = some x ∧ W.drew.cell? ⟨b, 0, none⟩ = some c ∧ W.drew.cell? ⟨b, 1, none⟩ = some x := ⟨h.cell 0, h.cell 1, h.drew.cell 0, h.drew.cell 1⟩
theorem rplace_0 {w : World} {q a : Nat} {bs : List UInt8} (h : RefR w q bs a 0) :
    Calls Tryd.prog 20 #[.pointer (some ⟨q, 0, none⟩)] w fun e w' => e = .returned (.int .i64 (a : Int)) ∧ w.grownBy w' none :=
  (rplace_any h).mono fun _ _ ⟨h1, h2⟩ => ⟨by rw [h1]; simp, h2⟩
theorem rbyte_short0 {w : World} {q a : Nat} {bs : List UInt8} (h : RefR w q bs a 0) (ha : a = bs.length) :
    Calls Tryd.prog 39 #[.pointer (some ⟨q, 0, none⟩)] w (RFault (.int .u8 0) 3 (a : Int) w) :=
  (rbyte_short h ha).mono fun _ _ ⟨h1, h2⟩ => ⟨by rw [h1]; simp, h2⟩
set_option maxRecDepth 100000 in
set_option maxHeartbeats 1000000 in
theorem rpart_less {w : World} {q a bg : Nat} {bs : List UInt8} (h : RefR w q bs a bg) (n : Int) (hn : (bs.length : Int) - (a : Int) < n) :
    Calls Tryd.prog 41 #[.pointer (some ⟨q, 0, none⟩), .int .i64 n] w (RFault (.pointer none) 3 ((bg : Int) + (a : Int)) w) := by
  have h0 : w.grownBy (w.alloc (.cells #[.int .i64 0, .int .i64 0] 47)) none := only_alloc (only_refl _ _) _
  have hR := h.kept h0 (fun e => by cases e)
  have hb0 := Blk.new w 47 #[.int .i64 0, .int .i64 0]
  have hn0 := Lib.hid hn
  clear hn
  go_enter Tryd.func41, Tryd.ntmps41
  go_wp2_with fail
  refine (rplace_any hR).mono ?_
  rintro e w0 ⟨rfl, hp⟩
  have hR0 := hR.kept hp (fun e => by cases e)
  go_wp2_with fail
  refine (rtake_short hR0 n hn0.out).mono ?_
  rintro e w1 ⟨rfl, h1⟩
  have hb1 := (hb0.kept hp).kept h1
  have k0 : w1.cell? ⟨w.heap.size, 0, none⟩ = some (.int .i64 0) := hb1.cell 0
  have k1 : w1.cell? ⟨w.heap.size, 1, none⟩ = some (.int .i64 0) := hb1.cell 1
  have f0 := hb1.frozen 0
  have f1 := hb1.frozen 1
  have hz := hb1.lt
  go_wp2_with fail
  go_region
  all_goals go_wp2
  obtain ⟨e0, e1, e2, _⟩ := res_end (only_trans (only_trans h0 hp) h1) hb1 rfl 3 ((bg : Int) + (a : Int)) (.cells #[.int .i64 3, .int .i64 ((bg : Int) + (a : Int))] 47)
  unfold setF at e0 e1 e2
  exact bodyPost_ret (v := .tuple #[.pointer none, .agg #[.int .i64 3, .int .i64 ((bg : Int) + (a : Int))]]) (by simp [results, Tryd.results41, go_sem, e0, e1]) rfl ⟨rfl, e2⟩

theorem rpart_short0 {w : World} {q a : Nat} {bs : List UInt8} (h : RefR w q bs a 0) (n : Int) (hn : (bs.length : Int) - (a : Int) < n) :
    Calls Tryd.prog 41 #[.pointer (some ⟨q, 0, none⟩), .int .i64 n] w (RFault (.pointer none) 3 (a : Int) w) :=
  (rpart_less h n hn).mono fun _ _ ⟨h1, h2⟩ => ⟨by rw [h1]; simp, h2⟩
/-- What stands between two rounds of Split of the document. -/
structure RL (w : World) (b : List UInt8) (q : Nat) (pre : List Sx) (W : World) : Prop where
  hb : RB w.heap.size (rtxt pre 0) (rtxt pre 1) (rtxt pre 2) W
  grow : w.grownBy W none
  rd : ∃ a, Pos b pre a ∧ RefR W q b a 0
  parts : ∀ (q' p n : Nat), Sx.ok q' p n ∈ pre → RefR W q' (cut b p n) 0 p ∧ q' ≠ q ∧ w.heap.size + 3 < q'
  lt : w.heap.size + 3 < q
theorem RL.none_ {w : World} {b : List UInt8} {q : Nat} {pre : List Sx} {W W' : World} (h : RL w b q pre W) (hg : W.grownBy W' none) : RL w b q pre W' := by
  obtain ⟨a, h1, h2⟩ := h.rd
  exact ⟨h.hb.grown hg (fun _ e => by cases e), only_trans h.grow hg, ⟨a, h1, h2.kept hg (fun e => by cases e)⟩, fun q' p n hm => ⟨(h.parts q' p n hm).1.kept hg (fun e => by cases e), (h.parts q' p n hm).2⟩, h.lt⟩
/-- What stays where the reader has moved. -/
structure RM (w : World) (b : List UInt8) (q : Nat) (pre : List Sx) (W : World) : Prop where
  hb : RB w.heap.size (rtxt pre 0) (rtxt pre 1) (rtxt pre 2) W
  grow : w.grownBy W none
  parts : ∀ (q' p n : Nat), Sx.ok q' p n ∈ pre → RefR W q' (cut b p n) 0 p ∧ q' ≠ q ∧ w.heap.size + 3 < q'
  lt : w.heap.size + 3 < q
theorem RL.rm {w : World} {b : List UInt8} {q : Nat} {pre : List Sx} {W : World} (h : RL w b q pre W) : RM w b q pre W := ⟨h.hb, h.grow, h.parts, h.lt⟩
theorem RM.none_ {w : World} {b : List UInt8} {q : Nat} {pre : List Sx} {W W' : World} (h : RM w b q pre W) (hg : W.grownBy W' none) : RM w b q pre W' :=
  ⟨h.hb.grown hg (fun _ e => by cases e), only_trans h.grow hg, fun q' p n hm => ⟨(h.parts q' p n hm).1.kept hg (fun e => by cases e), (h.parts q' p n hm).2⟩, h.lt⟩
theorem RM.move {w : World} {b : List UInt8} {q : Nat} {pre : List Sx} {W W' : World} (h : RM w b q pre W) (hg : W.grownBy W' (some q)) : RM w b q pre W' := by
  have hl := h.lt
  exact ⟨h.hb.grown hg (fun _ e => by injection e with e; omega), only_new h.grow hg (by omega), fun q' p n hm => ⟨(h.parts q' p n hm).1.kept hg (fun e => (h.parts q' p n hm).2.1 (by injection e)), (h.parts q' p n hm).2⟩, hl⟩

/-- What Small of the document says where it stands. -/
def SmallIs (b : List UInt8) (a : Nat) (v c x : Int) (e2 : Nat) : Prop := ∀ (q : Nat) (W : World), RefR W q b a 0 →
  Calls Tryd.prog 40 #[.pointer (some ⟨q, 0, none⟩), .int .i64 65536] W (RefSays (.int .i64 v) c x q b e2 0 W)
theorem u_doc {b : List UInt8} {a j : Nat} (hk : Taken (b.drop a) j) (hg : ¬ Bad ((b.drop a).take j)) (q : Nat) (W : World) (h : RefR W q b a 0) :
    Calls Tryd.prog 58 #[.pointer (some ⟨q, 0, none⟩)] W (RefSays (.int .u64 (num ((b.drop a).take j) : Int)) 0 0 q b (a + j) 0 W) := by
  refine (ru_taken h j hk false (by simp [hg])).mono fun e w' ⟨h1, h2, h3⟩ => ⟨?_, h2, h3⟩
  rcases h1 with ⟨h0, _⟩ | ⟨_, h1⟩
  · cases h0
  · exact h1
theorem whole_16 : Whole 65536 := ⟨by decide, by decide⟩
theorem smallIs_good {b : List UInt8} {a j n : Nat} (hk : Taken (b.drop a) j) (hg : ¬ Bad ((b.drop a).take j)) (hn : num ((b.drop a).take j) = n) (hs : n ≤ 65536) : SmallIs b a (n : Int) 0 0 (a + j) :=
  fun q W h => rsmall_ok h 65536 n whole_16 (by omega) (fun W h => hn ▸ u_doc hk hg q W h)
theorem smallIs_long {b : List UInt8} {a j n : Nat} (hk : Taken (b.drop a) j) (hg : ¬ Bad ((b.drop a).take j)) (hn : num ((b.drop a).take j) = n) (hs : 65536 < n) : SmallIs b a 0 4 (a : Int) (a + j) := by
  intro q W h
  have := rsmall_long h 65536 n (by rw [← hn]; exact (sev_of_taken hk hg).2) whole_16 (by omega) (fun W h => hn ▸ u_doc hk hg q W h)
  have e : ((0 : Nat) : Int) + (a : Int) = (a : Int) := by omega
  rw [e] at this
  exact this
theorem smallIs_wrong {b : List UInt8} {a j : Nat} (hk : Taken (b.drop a) j) (hb : Bad ((b.drop a).take j)) : SmallIs b a 0 5 (a : Int) (a + j) := by
  intro q W h
  refine rsmall_fault h 65536 5 (a : Int) rfl fun W h => ?_
  refine (ru_taken h j hk true (by simp [hb])).mono fun e w' ⟨h1, h2, h3⟩ => ⟨?_, h2, h3⟩
  rcases h1 with ⟨_, h1⟩ | ⟨h0, _⟩
  · rw [h1]; simp
  · cases h0
theorem smallIs_ends {b : List UInt8} {a : Nat} (hs : Short (b.drop a)) (ha : a ≤ b.length) : SmallIs b a 0 3 (b.length : Int) b.length := by
  intro q W h
  refine rsmall_fault h 65536 3 (b.length : Int) rfl fun W h => ?_
  exact (ru_ends h hs ha).mono fun e w' ⟨h1, h2, h3⟩ => ⟨by rw [h1]; simp, h2, h3⟩
/-- How a section may fail, as Split of the document meets it. -/
inductive SecWay (b : List UInt8) (k a : Nat) : Int → Int → Prop
  | lacks : a = b.length → SecWay b k a 3 (a : Int)
  | other (u : UInt8) : b[a]? = some u → u ≠ UInt8.ofNat k → SecWay b k a 7 (a : Int)
  | small (e2 : Nat) (c y : Int) : b[a]? = some (UInt8.ofNat k) → (c == 0) = false → SmallIs b (a + 1) 0 c y e2 → SecWay b k a c y
  | short (p n : Nat) : b[a]? = some (UInt8.ofNat k) → n ≤ 65536 → SmallIs b (a + 1) (n : Int) 0 0 p → (b.length : Int) - (p : Int) < (n : Int) → SecWay b k a 3 (p : Int)
theorem sec_way {b : List UInt8} {k a : Nat} {c y : Int} (h : SecFault b k a c y) : SecWay b k a c y := by
  cases h with
  | lacks h => exact .lacks h
  | other u h1 h2 => exact .other u h1 h2
  | ends h1 h2 => exact .small _ _ _ h1 rfl (smallIs_ends h2 (by have := (List.getElem?_eq_some_iff.1 h1).1; omega))
  | wrong j h1 h2 h3 => exact .small _ _ _ h1 rfl (smallIs_wrong h2 h3)
  | long j n h1 h2 h3 h4 h5 => exact .small _ _ _ h1 rfl (smallIs_long h2 h3 h4 h5)
  | short j n h1 h2 h3 h4 h5 h6 => exact .short (a + 1 + j) n h1 h5 (smallIs_good h2 h3 h4 h5) (by omega)

theorem rend_long0 {w : World} {q a : Nat} {bs : List UInt8} (h : RefR w q bs a 0) (ha : a < bs.length) :
    Calls Tryd.prog 42 #[.pointer (some ⟨q, 0, none⟩)] w fun e w' => e = .returned (.agg #[.int .i64 4, .int .i64 (a : Int)]) ∧ w.grownBy w' none :=
  (rend_long h ha).mono fun _ _ ⟨h1, h2⟩ => ⟨by rw [h1]; simp, h2⟩
theorem RefR.rsW {W : World} {q a bg n0 : Nat} {bs : List UInt8} (h : RefR W q bs a bg) (hq : n0 + 3 < q) (v1 v2 v3 c x : Value) : RefR (rsW W n0 v1 v2 v3 c x) q bs a bg := by
  obtain ⟨s, hb, r⟩ := h
  have e0 : q ≠ n0 := by omega
  have e1 : q ≠ n0 + 1 := by omega
  exact ⟨s, ((((hb.far (p := ⟨n0, 0, none⟩) e0 v1).far (p := ⟨n0, 1, none⟩) e0 v2).far (p := ⟨n0, 2, none⟩) e0 v3).far (p := ⟨n0 + 1, 0, none⟩) e1 c).far (p := ⟨n0 + 1, 1, none⟩) e1 x, r⟩
/-- Behind a section. -/
theorem rl_next {w : World} {b : List UInt8} {q : Nat} {pre : List Sx} {W2 W6 : World} {a p n j p' : Nat} (M2 : RM w b q pre W2) (hpos : Pos b pre a) (hl : pre.length < 3) (hok : SecOk b (pre.length + 1) a j p n)
    (hq : q < W2.heap.size) (g6 : W2.grownBy W6 (some q)) (hp : W2.heap.size < p') (r6 : RefR W6 q b (p + n) 0) (rp : RefR W6 p' ((b.drop p).take n) 0 (0 + p)) (u0 u1 : Value) :
    RL w b q (pre ++ [.ok p' p n]) (((W6.setCell ⟨W2.heap.size, 0, none⟩ u0).setCell ⟨W2.heap.size, 1, none⟩ u1).setCell ⟨w.heap.size + 1 + 1 + 1, pre.length, none⟩ (.pointer (some ⟨p', 0, none⟩))) := by
  have hlt := M2.lt
  have hB := M2.hb.b3.lt
  have g7 : W2.grownBy ((W6.setCell ⟨W2.heap.size, 0, none⟩ u0).setCell ⟨W2.heap.size, 1, none⟩ u1) (some q) := only_setNew (only_setNew g6 (p := ⟨W2.heap.size, 0, none⟩) (Nat.le_refl _) u0) (p := ⟨W2.heap.size, 1, none⟩) (Nat.le_refl _) u1
  have M7 := M2.move g7
  have k7 : W6.grownBy ((W6.setCell ⟨W2.heap.size, 0, none⟩ u0).setCell ⟨W2.heap.size, 1, none⟩ u1) (some W2.heap.size) := only_setCell (only_setCell (only_refl W6 _) (p := ⟨W2.heap.size, 0, none⟩) rfl u0) (p := ⟨W2.heap.size, 1, none⟩) rfl u1
  have r7 := r6.kept k7 (fun e => by injection e with e; omega)
  have p7 := rp.kept k7 (fun e => by injection e with e; omega)
  generalize (W6.setCell ⟨W2.heap.size, 0, none⟩ u0).setCell ⟨W2.heap.size, 1, none⟩ u1 = W7 at *
  have k8 : W7.grownBy (W7.setCell ⟨w.heap.size + 1 + 1 + 1, pre.length, none⟩ (.pointer (some ⟨p', 0, none⟩))) (some (w.heap.size + 3)) := only_setCell (only_refl W7 _) rfl _
  refine ⟨⟨M7.hb.b0.grown k8 (fun e => by injection e with e; omega), M7.hb.b1.grown k8 (fun e => by injection e with e; omega), M7.hb.b2.grown k8 (fun e => by injection e with e; omega), ?_⟩, only_new M7.grow k8 (by omega), ⟨p + n, .snoc p' hpos hok, r7.kept k8 (fun e => by injection e with e; omega)⟩, ?_, hlt⟩
  · have := M7.hb.b3.set_ pre.length (.pointer (some ⟨p', 0, none⟩))
    match pre, hl with
    | [], _ => exact this
    | [_], _ => exact this
    | [_, _], _ => exact this
  · intro q' p1 n1 hm
    rcases List.mem_append.1 hm with hm | hm
    · have := M7.parts q' p1 n1 hm
      exact ⟨this.1.kept k8 (fun e => by injection e with e; omega), this.2⟩
    · have e := List.mem_singleton.1 hm
      injection e with e1 e2 e3
      subst e1 e2 e3
      refine ⟨?_, by omega, by omega⟩
      have := p7.kept k8 (fun e => by injection e with e; omega)
      rw [Nat.zero_add] at this
      exact this
theorem index_at (t : ByteArray) (i : Nat) (u : UInt8) (h : t.data.toList[i]? = some u) (W : World) : (Instr.index 9 (.string t) (.int .i64 (i : Int))).run Tryd.prog W = .ok (.int .u8 (u.toNat : Int)) W := by
  have hlt : i < t.data.toList.length := (List.getElem?_eq_some_iff.1 h).1
  have hlt' : i < t.size := by rw [bytes_len] at hlt; exact hlt
  rw [run_index_string W 9 t .i64 (i : Int) Tryd.underlying9, dif_pos ⟨by omega, by omega⟩]
  have he : t.data.toList[i] = u := (List.getElem?_eq_some_iff.1 h).2
  have hg : t[(i : Int).toNat]'(by omega) = u := by
    rw [← he]
    simp [ByteArray.getElem_eq_getElem_data]
  rw [hg]
set_option maxRecDepth 100000 in
set_option maxHeartbeats 4000000 in
theorem rsplit_any (t : ByteArray) (ht : t.size ≤ 1000000) (w : World) :
    Calls Tryd.prog 19 #[.string t] w (RSplits t.data.toList w) := by
  have R0 := RB.start w
  have hg0 : w.grownBy ((((w.alloc (.cells #[.pointer none, .pointer none, .pointer none] 54)).alloc (.cells #[.int .i64 0, .int .i64 0] 47)).alloc (.cells #[.pointer none, .pointer none, .pointer none] 54)).alloc (.cells #[.pointer none, .pointer none, .pointer none] 54)) none := only_alloc (only_alloc (only_alloc (only_alloc (only_refl _ _) _) _) _) _
  go_enter Tryd.func19, Tryd.ntmps19
  go_wp2_with fail
  generalize (((w.alloc (.cells #[.pointer none, .pointer none, .pointer none] 54)).alloc (.cells #[.int .i64 0, .int .i64 0] 47)).alloc (.cells #[.pointer none, .pointer none, .pointer none] 54)).alloc (.cells #[.pointer none, .pointer none, .pointer none] 54) = w1 at *
  go_loopw [6] (fun v wr => ∃ i : Nat, v = .int .i64 (i : Int) ∧ i ≤ 5 ∧ (∀ j, j < i → t.data.toList[j]? = hd5[j]?) ∧ RB w.heap.size (.pointer none) (.pointer none) (.pointer none) wr ∧ w.grownBy wr none) (fun v _ => (5 - intOf v).toNat)
  case atStart => exact ⟨0, rfl, by omega, fun j hj => by omega, R0, hg0⟩
  case round =>
    obtain ⟨i, rfl, hi, hh, hR, hg⟩ := hrel
    by_cases h5 : i = 5
    · subst h5
      have hhd : HeadOk t.data.toList := hh
      have h5l := head_len hhd
      have L0 : RL w t.data.toList wr.heap.size [] (wr.alloc (.cells #[.string t, .int .i64 5, .int .i64 0] 58)) :=
        ⟨hR.grown (only_alloc (only_refl wr none) _) (fun _ e => by cases e), only_alloc hg _, ⟨5, .start hhd, t, Blk.new wr _ _, rfl, h5l, by rw [bytes_len]; omega⟩, fun q' p n hm => by simp at hm, by have := hR.b3.lt; omega⟩
      clear R0 hg0 hR hg hh
      obtain ⟨q, hq⟩ : ∃ q, wr.heap.size = q := ⟨_, rfl⟩
      rw [hq] at L0
      simp only [Int.cast_ofNat_Int]
      go_wp2_with fail
      go_loopw [8] (fun v wx => ∃ pre : List Sx, v = .int .i64 (pre.length : Int) ∧ pre.length ≤ 3 ∧ RL w t.data.toList q pre wx) (fun v _ => (3 - intOf v).toNat)
      case atStart => exact ⟨[], rfl, by simp, L0⟩
      case round =>
        obtain ⟨pre, rfl, hle, hL⟩ := hrel
        obtain ⟨a, hpos, hrd⟩ := hL.rd
        by_cases h3 : pre.length = 3
        · have HM := hL.rm
          clear L0 hle
          obtain ⟨x, q1, q2, q3, rfl, T⟩ := pos_three hpos h3
          have P1 := HM.parts q1 x.p1 x.n1 (by simp)
          have P2 := HM.parts q2 x.p2 x.n2 (by simp)
          have P3 := HM.parts q3 x.p3 x.n3 (by simp)
          have hal := hpos.le
          clear h3 hL hpos
          by_cases ha : a = t.data.toList.length
          · have HS : Hid (SplitOk t.data.toList x) := ⟨T.head, T.s1, T.s2, T.s3, by rw [← T.at_]; exact ha⟩
            replace ha := Lib.hid ha
            clear T hal
            go_wp2_with fail
            refine (rend_ok hrd ha.out).mono ?_
            rintro e W2 ⟨rfl, g2⟩
            have gk := only_alloc g2 (.cells #[.int .i64 0, .int .i64 0] 47)
            have hB := (HM.none_ g2).hb.b3.lt
            have M2 := HM.none_ gk
            have n1 : W2.heap.size ≠ w.heap.size := by omega
            have n2 : w.heap.size ≠ W2.heap.size := by omega
            have n3 : W2.heap.size ≠ w.heap.size + 1 := by omega
            have n4 : w.heap.size + 1 ≠ W2.heap.size := by omega
            have F2 := Blk.new W2 47 #[.int .i64 0, .int .i64 0]
            have HR := Lib.hid (And.intro (((P1.1.kept gk (fun e => by cases e)).rsW P1.2.2 (.pointer (some ⟨q1, 0, none⟩)) (.pointer (some ⟨q2, 0, none⟩)) (.pointer (some ⟨q3, 0, none⟩)) (.int .i64 0) (.int .i64 0)).kept (only_drew (only_refl _ none)) (fun e => by cases e)) (And.intro (((P2.1.kept gk (fun e => by cases e)).rsW P2.2.2 (.pointer (some ⟨q1, 0, none⟩)) (.pointer (some ⟨q2, 0, none⟩)) (.pointer (some ⟨q3, 0, none⟩)) (.int .i64 0) (.int .i64 0)).kept (only_drew (only_refl _ none)) (fun e => by cases e)) (((P3.1.kept gk (fun e => by cases e)).rsW P3.2.2 (.pointer (some ⟨q1, 0, none⟩)) (.pointer (some ⟨q2, 0, none⟩)) (.pointer (some ⟨q3, 0, none⟩)) (.int .i64 0) (.int .i64 0)).kept (only_drew (only_refl _ none)) (fun e => by cases e))))
            have HE := Lib.hid (rs_end' M2.hb M2.grow (.pointer (some ⟨q1, 0, none⟩)) (.pointer (some ⟨q2, 0, none⟩)) (.pointer (some ⟨q3, 0, none⟩)) (.int .i64 0) (.int .i64 0))
            unfold rsW at HE HR
            obtain ⟨d0, d1, d2, d3⟩ := flt_read F2
            have HV := M2.hb
            obtain ⟨a0, a1, a2, a3, a4, a5, a6, a7, a8, a9, aa, ab, ac⟩ := HV.read
            obtain ⟨b0, b1, b2, b3, b4, b5, b6, b7, b8, b9, ba, bb, bc⟩ := HV.drew.read
            obtain ⟨o0, o1, o2⟩ := HV.out_
            obtain ⟨o3, o4, o5⟩ := HV.drew.out_
            simp only [rtxt_0, rtxt_1, rtxt_2] at o0 o1 o2 o3 o4 o5
            clear M2 F2 HV HM P1 P2 P3 hrd hB g2 gk
            go_wp2_with fail
            generalize W2.alloc (.cells #[.int .i64 0, .int .i64 0] 47) = W9 at *
            generalize W2.heap.size = B at *
            go_region_with fail
            all_goals
              go_wp2_with fail
              exact bodyPost_ret (rs_results rfl rfl HE.out.1.drew HE.out.2.1.drew) rfl (.inl ⟨x, q1, q2, q3, HS.out, rfl, only_drew HE.out.2.2, HR.out.1, HR.out.2.1, HR.out.2.2⟩)
          · have HF : Hid (SplitFault t.data.toList 4 (a : Int)) := by
              have := SplitFault.more x T.head T.s1 T.s2 T.s3 (by rw [← T.at_]; omega)
              rw [← T.at_] at this
              exact this
            have ha' := Lib.hid (show a < t.data.toList.length by omega)
            clear T hal ha P1 P2 P3
            go_wp2_with fail
            refine (rend_long0 hrd ha'.out).mono ?_
            rintro e W2 ⟨rfl, g2⟩
            have gk := only_alloc g2 (.cells #[.int .i64 4, .int .i64 (a : Int)] 47)
            have hB := (HM.none_ g2).hb.b3.lt
            have M2 := HM.none_ gk
            have n1 : W2.heap.size ≠ w.heap.size := by omega
            have n2 : w.heap.size ≠ W2.heap.size := by omega
            have n3 : W2.heap.size ≠ w.heap.size + 1 := by omega
            have n4 : w.heap.size + 1 ≠ W2.heap.size := by omega
            have F2 := Blk.new W2 47 #[.int .i64 4, .int .i64 (a : Int)]
            have HE := Lib.hid (rs_end' M2.hb M2.grow (.pointer none) (.pointer none) (.pointer none) (.int .i64 4) (.int .i64 (a : Int)))
            unfold rsW at HE
            obtain ⟨d0, d1, d2, d3⟩ := flt_read F2
            have HV := M2.hb
            obtain ⟨a0, a1, a2, a3, a4, a5, a6, a7, a8, a9, aa, ab, ac⟩ := HV.read
            obtain ⟨b0, b1, b2, b3, b4, b5, b6, b7, b8, b9, ba, bb, bc⟩ := HV.drew.read
            clear M2 F2 HV HM hrd hB g2 gk
            go_wp2_with fail
            generalize W2.alloc (.cells #[.int .i64 4, .int .i64 (a : Int)] 47) = W9 at *
            generalize W2.heap.size = B at *
            go_region_with fail
            all_goals
              go_wp2_with fail
              exact bodyPost_ret (rs_results rfl rfl HE.out.1.drew HE.out.2.1.drew) rfl (.inr ⟨4, a, HF.out, rfl, only_drew HE.out.2.2⟩)
        · have hlt3 : pre.length < 3 := by omega
          have hlt3' : (pre.length : Int) < 3 := by omega
          have hl0 : (0 : Int) ≤ (pre.length : Int) := by omega
          have HM := hL.rm
          have HP := rplace_0 hrd
          rcases sec_or t.data.toList (pre.length + 1) a hpos.le with ⟨c, y, hf⟩ | ⟨j, p, n, hok⟩
          · have HF := Lib.hid (pos_fault hpos hlt3 hf)
            replace hf := sec_way hf
            cases hf with
            | lacks ha =>
              clear L0 h3 hle
              replace ha := Lib.hid ha
              go_wp2_with fail
              refine HP.mono ?_
              clear HP
              rintro e W1 ⟨rfl, g1⟩
              have M1 := HM.none_ g1
              have r1 := hrd.kept g1 (fun e => by cases e)
              clear HM hrd g1 hL
              go_wp2_with fail
              refine (rbyte_short0 r1 ha.out).mono ?_
              rintro e W2 ⟨rfl, g2⟩
              have M2 := (M1.none_ g2).none_ (only_alloc (only_refl W2 none) (.cells #[.int .i64 3, .int .i64 (a : Int)] 47))
              have HV := M2.hb
              have hB := (M1.none_ g2).hb.b3.lt
              have n1 : W2.heap.size ≠ w.heap.size := by omega
              have n2 : w.heap.size ≠ W2.heap.size := by omega
              have n3 : W2.heap.size ≠ w.heap.size + 1 := by omega
              have n4 : w.heap.size + 1 ≠ W2.heap.size := by omega
              clear hB
              have F2 := Blk.new W2 47 #[.int .i64 3, .int .i64 (a : Int)]
              have HE := Lib.hid (rs_end' M2.hb M2.grow (.pointer none) (.pointer none) (.pointer none) (.int .i64 3) (.int .i64 (a : Int)))
              unfold rsW at HE
              obtain ⟨f0, f1, f2, f3⟩ := flt_read F2
              obtain ⟨a0, a1, a2, a3, a4, a5, a6, a7, a8, a9, aa, ab, ac⟩ := HV.read
              obtain ⟨b0, b1, b2, b3, b4, b5, b6, b7, b8, b9, ba, bb, bc⟩ := HV.drew.read
              clear M2 HV F2
              clear M1 r1 g2
              go_wp2_with fail
              generalize W2.alloc (.cells #[.int .i64 3, .int .i64 (a : Int)] 47) = W3 at *
              generalize W2.heap.size = B at *
              go_region_with fail
              all_goals
                go_wp2_with fail
                exact bodyPost_ret (rs_results rfl rfl HE.out.1.drew HE.out.2.1.drew) rfl (.inr ⟨3, a, HF.out, rfl, only_drew HE.out.2.2⟩)
            | other u h1 h2 =>
              clear L0 h3 hle
              have hu := Lib.hid h1
              have hne : ((u.toNat : Int) == ((pre.length : Int) + 1)) = false := by
                rw [beq_eq_false_iff_ne]
                intro e
                have hul := u.toNat_lt
                refine h2 (UInt8.toNat_inj.1 ?_)
                rw [u8_ofNat (by omega)]
                omega
              have hu0 : (0 : Int) ≤ (u.toNat : Int) := by omega
              have hu1 : (u.toNat : Int) < 256 := by have := u.toNat_lt; omega
              clear h1 h2
              go_wp2_with fail
              refine HP.mono ?_
              clear HP
              rintro e W1 ⟨rfl, g1⟩
              have M1 := HM.none_ g1
              have r1 := hrd.kept g1 (fun e => by cases e)
              clear HM hrd g1 hL
              go_wp2_with fail
              refine (rbyte_ok r1 u hu.out).mono ?_
              rintro e W2 ⟨rfl, g2, r2⟩
              have M2 := (M1.move g2).none_ (only_alloc (only_refl W2 none) (.cells #[.int .i64 0, .int .i64 0] 47))
              have HV := M2.hb
              have hB := (M1.move g2).hb.b3.lt
              have n1 : W2.heap.size ≠ w.heap.size := by omega
              have n2 : w.heap.size ≠ W2.heap.size := by omega
              have n3 : W2.heap.size ≠ w.heap.size + 1 := by omega
              have n4 : w.heap.size + 1 ≠ W2.heap.size := by omega
              clear hB
              have F2 := Blk.new W2 47 #[.int .i64 0, .int .i64 0]
              have HE := Lib.hid (rs_end' M2.hb M2.grow (.pointer none) (.pointer none) (.pointer none) (.int .i64 7) (.int .i64 (a : Int)))
              unfold rsW at HE
              obtain ⟨f0, f1, f2, f3⟩ := flt_read F2
              obtain ⟨a0, a1, a2, a3, a4, a5, a6, a7, a8, a9, aa, ab, ac⟩ := HV.read
              obtain ⟨b0, b1, b2, b3, b4, b5, b6, b7, b8, b9, ba, bb, bc⟩ := HV.drew.read
              clear M2 HV F2
              clear M1 r1 g2 r2
              go_wp2_with fail
              exact bodyPost_ret (rs_results rfl rfl HE.out.1 HE.out.2.1) rfl (.inr ⟨7, a, HF.out, rfl, HE.out.2.2⟩)
            | small e2 c y h1 h2 h4 =>
              clear L0 h3 hle
              obtain ⟨u, hu, hue⟩ : ∃ u : UInt8, Hid (t.data.toList[a]? = some u) ∧ ((u.toNat : Int) == ((pre.length : Int) + 1)) = true := ⟨_, Lib.hid h1, by
                rw [beq_iff_eq, u8_ofNat (by omega)]
                omega⟩
              have hu0 : (0 : Int) ≤ (u.toNat : Int) := by omega
              have hu1 : (u.toNat : Int) < 256 := by have := u.toNat_lt; omega
              clear h1
              go_wp2_with fail
              refine HP.mono ?_
              clear HP
              rintro e W1 ⟨rfl, g1⟩
              have M1 := HM.none_ g1
              have r1 := hrd.kept g1 (fun e => by cases e)
              clear HM hrd g1 hL
              go_wp2_with fail
              refine (rbyte_ok r1 u hu.out).mono ?_
              rintro e W2 ⟨rfl, g2, r2⟩
              have M2 := M1.move g2
              have hqB := r2.lt
              have F2 := Blk.new W2 47 #[.int .i64 0, .int .i64 0]
              have ga := only_alloc (only_refl W2 none) (.cells #[.int .i64 0, .int .i64 0] 47)
              have ra := r2.kept ga (fun e => by cases e)
              have f0 := F2.cell 0
              have f1 := F2.cell 1
              have z0 := F2.frozen 0
              have z1 := F2.frozen 1
              clear M1 r1 g2 r2

              have hB := M2.hb.b3.lt
              have n1 : W2.heap.size ≠ w.heap.size := by omega
              have n2 : w.heap.size ≠ W2.heap.size := by omega
              have n3 : W2.heap.size ≠ w.heap.size + 1 := by omega
              have n4 : w.heap.size + 1 ≠ W2.heap.size := by omega

              go_wp2_with fail
              refine (h4 _ _ ra).mono ?_
              rintro e W4 ⟨rfl, g4, r4⟩
              have gW4 := only_trans (only_weak ga (some q)) g4
              have F4 := F2.grown g4 (fun e => by injection e with e; omega)
              clear f0 f1 z0 z1 ga ra F2 g4 h4
              have f0 := F4.cell 0
              have f1 := F4.cell 1
              have z0 := F4.frozen 0
              have z1 := F4.frozen 1

              have M5 := M2.move (only_setNew (only_setNew gW4 (p := ⟨W2.heap.size, 0, none⟩) (Nat.le_refl _) (.int .i64 c)) (p := ⟨W2.heap.size, 1, none⟩) (Nat.le_refl _) (.int .i64 y))
              have F5 := (F4.set_ 0 (.int .i64 c)).set_ 1 (.int .i64 y)
              have HE := Lib.hid (rs_end' M5.hb M5.grow (.pointer none) (.pointer none) (.pointer none) (.int .i64 c) (.int .i64 y))
              unfold rsW at HE
              obtain ⟨d0, d1, d2, d3⟩ := flt_read F5
              have HV := M5.hb
              obtain ⟨a0, a1, a2, a3, a4, a5, a6, a7, a8, a9, aa, ab, ac⟩ := HV.read
              obtain ⟨b0, b1, b2, b3, b4, b5, b6, b7, b8, b9, ba, bb, bc⟩ := HV.drew.read
              clear M5 F5 HV M2 hqB hB gW4 F4 r4
              go_wp2_with fail
              generalize (W4.setCell ⟨W2.heap.size, 0, none⟩ (.int .i64 c)).setCell ⟨W2.heap.size, 1, none⟩ (.int .i64 y) = W9 at *
              generalize W2.heap.size = B at *
              go_region_with fail
              all_goals
                go_wp2_with fail
                exact bodyPost_ret (rs_results rfl rfl HE.out.1.drew HE.out.2.1.drew) rfl (.inr ⟨c, y, HF.out, rfl, only_drew HE.out.2.2⟩)
            | short p n h1 h2 h4 h5 =>
              clear L0 h3 hle
              obtain ⟨u, hu, hue⟩ : ∃ u : UInt8, Hid (t.data.toList[a]? = some u) ∧ ((u.toNat : Int) == ((pre.length : Int) + 1)) = true := ⟨_, Lib.hid h1, by
                rw [beq_iff_eq, u8_ofNat (by omega)]
                omega⟩
              have hu0 : (0 : Int) ≤ (u.toNat : Int) := by omega
              have hu1 : (u.toNat : Int) < 256 := by have := u.toNat_lt; omega
              clear h1
              go_wp2_with fail
              refine HP.mono ?_
              clear HP
              rintro e W1 ⟨rfl, g1⟩
              have M1 := HM.none_ g1
              have r1 := hrd.kept g1 (fun e => by cases e)
              clear HM hrd g1 hL
              go_wp2_with fail
              refine (rbyte_ok r1 u hu.out).mono ?_
              rintro e W2 ⟨rfl, g2, r2⟩
              have M2 := M1.move g2
              have hqB := r2.lt
              have F2 := Blk.new W2 47 #[.int .i64 0, .int .i64 0]
              have ga := only_alloc (only_refl W2 none) (.cells #[.int .i64 0, .int .i64 0] 47)
              have ra := r2.kept ga (fun e => by cases e)
              have f0 := F2.cell 0
              have f1 := F2.cell 1
              have z0 := F2.frozen 0
              have z1 := F2.frozen 1
              clear M1 r1 g2 r2

              have hB := M2.hb.b3.lt
              have n1 : W2.heap.size ≠ w.heap.size := by omega
              have n2 : w.heap.size ≠ W2.heap.size := by omega
              have n3 : W2.heap.size ≠ w.heap.size + 1 := by omega
              have n4 : w.heap.size + 1 ≠ W2.heap.size := by omega

              go_wp2_with fail
              refine (h4 _ _ ra).mono ?_
              rintro e W4 ⟨rfl, g4, r4⟩
              have gW4 := only_trans (only_weak ga (some q)) g4
              have F4 := F2.grown g4 (fun e => by injection e with e; omega)
              clear f0 f1 z0 z1 ga ra F2 g4 h4
              have f0 := F4.cell 0
              have f1 := F4.cell 1
              have z0 := F4.frozen 0
              have z1 := F4.frozen 1

              have r5 := r4.kept (only_setCell (only_setCell (only_refl W4 (some W2.heap.size)) (p := ⟨W2.heap.size, 0, none⟩) rfl (.int .i64 0)) (p := ⟨W2.heap.size, 1, none⟩) rfl (.int .i64 0)) (fun e => by injection e with e; omega)
              have gW5 := only_setNew (only_setNew gW4 (p := ⟨W2.heap.size, 0, none⟩) (Nat.le_refl _) (.int .i64 0)) (p := ⟨W2.heap.size, 1, none⟩) (Nat.le_refl _) (.int .i64 0)
              have F5 := (F4.set_ 0 (.int .i64 0)).set_ 1 (.int .i64 0)
              clear F4 r4 gW4
              go_wp2_with fail

              refine (rpart_short0 r5 (n : Int) h5).mono ?_
              rintro e W6 ⟨rfl, g6⟩
              have gW6 := only_trans gW5 (only_weak g6 (some q))
              have F6 := F5.grown g6 (fun e => by cases e)
              clear f0 f1 z0 z1 gW5 F5 g6
              have f0 := F6.cell 0
              have f1 := F6.cell 1
              have z0 := F6.frozen 0
              have z1 := F6.frozen 1

              have M5 := M2.move (only_setNew (only_setNew gW6 (p := ⟨W2.heap.size, 0, none⟩) (Nat.le_refl _) (.int .i64 3)) (p := ⟨W2.heap.size, 1, none⟩) (Nat.le_refl _) (.int .i64 (p : Int)))
              have F5 := (F6.set_ 0 (.int .i64 3)).set_ 1 (.int .i64 (p : Int))
              have HE := Lib.hid (rs_end' M5.hb M5.grow (.pointer none) (.pointer none) (.pointer none) (.int .i64 3) (.int .i64 (p : Int)))
              unfold rsW at HE
              obtain ⟨d0, d1, d2, d3⟩ := flt_read F5
              have HV := M5.hb
              obtain ⟨a0, a1, a2, a3, a4, a5, a6, a7, a8, a9, aa, ab, ac⟩ := HV.read
              obtain ⟨b0, b1, b2, b3, b4, b5, b6, b7, b8, b9, ba, bb, bc⟩ := HV.drew.read
              clear M5 F5 HV M2 hqB hB gW6 F6 r5
              go_wp2_with fail
              generalize (W6.setCell ⟨W2.heap.size, 0, none⟩ (.int .i64 3)).setCell ⟨W2.heap.size, 1, none⟩ (.int .i64 (p : Int)) = W9 at *
              generalize W2.heap.size = B at *
              go_region_with fail
              all_goals
                go_wp2_with fail
                exact bodyPost_ret (rs_results rfl rfl HE.out.1.drew HE.out.2.1.drew) rfl (.inr ⟨3, (p : Int), HF.out, rfl, only_drew HE.out.2.2⟩)
          · have hok := hok
            obtain ⟨h1, hsm, h4, hft⟩ : t.data.toList[a]? = some (UInt8.ofNat (pre.length + 1)) ∧ n ≤ 65536 ∧ SmallIs t.data.toList (a + 1) (n : Int) 0 0 p ∧ p + n ≤ t.data.toList.length :=
              ⟨hok.id, hok.small, by rw [hok.at_]; exact smallIs_good hok.taken hok.good hok.is hok.small, hok.fits⟩
            have HOK := Lib.hid hok
            have HPS := Lib.hid hpos
            clear hok hpos

            clear L0 h3 hle
            obtain ⟨u, hu, hue⟩ : ∃ u : UInt8, Hid (t.data.toList[a]? = some u) ∧ ((u.toNat : Int) == ((pre.length : Int) + 1)) = true := ⟨_, Lib.hid h1, by
              rw [beq_iff_eq, u8_ofNat (by omega)]
              omega⟩
            have hu0 : (0 : Int) ≤ (u.toNat : Int) := by omega
            have hu1 : (u.toNat : Int) < 256 := by have := u.toNat_lt; omega
            clear h1
            go_wp2_with fail
            refine HP.mono ?_
            clear HP
            rintro e W1 ⟨rfl, g1⟩
            have M1 := HM.none_ g1
            have r1 := hrd.kept g1 (fun e => by cases e)
            clear HM hrd g1 hL
            go_wp2_with fail
            refine (rbyte_ok r1 u hu.out).mono ?_
            rintro e W2 ⟨rfl, g2, r2⟩
            have M2 := M1.move g2
            have hqB := r2.lt
            have F2 := Blk.new W2 47 #[.int .i64 0, .int .i64 0]
            have ga := only_alloc (only_refl W2 none) (.cells #[.int .i64 0, .int .i64 0] 47)
            have ra := r2.kept ga (fun e => by cases e)
            have f0 := F2.cell 0
            have f1 := F2.cell 1
            have z0 := F2.frozen 0
            have z1 := F2.frozen 1
            clear M1 r1 g2 r2

            have hB := M2.hb.b3.lt
            have n1 : W2.heap.size ≠ w.heap.size := by omega
            have n2 : w.heap.size ≠ W2.heap.size := by omega
            have n3 : W2.heap.size ≠ w.heap.size + 1 := by omega
            have n4 : w.heap.size + 1 ≠ W2.heap.size := by omega

            go_wp2_with fail
            refine (h4 _ _ ra).mono ?_
            rintro e W4 ⟨rfl, g4, r4⟩
            have gW4 := only_trans (only_weak ga (some q)) g4
            have F4 := F2.grown g4 (fun e => by injection e with e; omega)
            clear f0 f1 z0 z1 ga ra F2 g4 h4
            have f0 := F4.cell 0
            have f1 := F4.cell 1
            have z0 := F4.frozen 0
            have z1 := F4.frozen 1

            have r5 := r4.kept (only_setCell (only_setCell (only_refl W4 (some W2.heap.size)) (p := ⟨W2.heap.size, 0, none⟩) rfl (.int .i64 0)) (p := ⟨W2.heap.size, 1, none⟩) rfl (.int .i64 0)) (fun e => by injection e with e; omega)
            have gW5 := only_setNew (only_setNew gW4 (p := ⟨W2.heap.size, 0, none⟩) (Nat.le_refl _) (.int .i64 0)) (p := ⟨W2.heap.size, 1, none⟩) (Nat.le_refl _) (.int .i64 0)
            have F5 := (F4.set_ 0 (.int .i64 0)).set_ 1 (.int .i64 0)
            clear F4 r4 gW4
            go_wp2_with fail

            refine (rpart_ok r5 n hft).mono ?_
            rintro e W6 ⟨p', rfl, hp', g6, r6, rp⟩
            have gW6 := only_trans gW5 g6
            have F6 := F5.grown g6 (fun e => by injection e with e; omega)
            have hp2 : W2.heap.size < p' := Nat.lt_of_lt_of_le F5.lt hp'
            have HN := Lib.hid (rl_next M2 HPS.out hlt3 HOK.out hqB gW6 hp2 r6 rp (.int .i64 0) (.int .i64 0))
            have M6 := M2.move gW6
            have x0 := M6.hb.b3.cell pre.length
            have x1 := M6.hb.b3.frozen pre.length
            have x2 : w.heap.size + 1 + 1 + 1 ≠ W2.heap.size := by omega
            have x3 : W2.heap.size ≠ w.heap.size + 1 + 1 + 1 := by omega
            clear f0 f1 z0 z1 gW5 F5 g6 r6 rp r5 M2 M6 hp' hp2 gW6
            have f0 := F6.cell 0
            have f1 := F6.cell 1
            have z0 := F6.frozen 0
            have z1 := F6.frozen 1
            clear F6 hqB hB
            go_wp2_with fail
            go_roundw
            case rel => exact ⟨pre ++ [.ok p' p n], by simp, by simp; omega, HN.out⟩
            case measure => simp [intOf]; omega
    · have hi5 : i < 5 := by omega
      have hi5' : (i : Int) < 5 := by omega
      have hi0 : (0 : Int) ≤ (i : Int) := by omega
      obtain ⟨h, hh5⟩ : ∃ h : UInt8, hd5[i]? = some h := by
        have hk : i = 0 ∨ i = 1 ∨ i = 2 ∨ i = 3 ∨ i = 4 := by omega
        rcases hk with rfl | rfl | rfl | rfl | rfl <;> exact ⟨_, rfl⟩
      have x1 := index_at ⟨#[67, 76, 81, 89, 1]⟩ i h hh5
      have k0 := hR.b0.cell 0
      have k1 := hR.b0.cell 1
      have k2 := hR.b0.cell 2
      have l0 := hR.b0.frozen 0
      have l1 := hR.b0.frozen 1
      have l2 := hR.b0.frozen 2
      have m0 := hR.b1.cell 0
      have m1 := hR.b1.cell 1
      have n0 := hR.b1.frozen 0
      have n1 := hR.b1.frozen 1
      have p0 := hR.b2.cell 0
      have p1 := hR.b2.cell 1
      have p2 := hR.b2.cell 2
      by_cases hl : t.size ≤ i
      · have g1 : decide ((t.size : Int) ≤ (i : Int)) = true := by rw [decide_eq_true_iff]; omega
        have hl1 : (t.size : Int) ≤ (i : Int) := by omega
        have HE := Lib.hid (fun n => rs_end' (hR.grown (only_drewN (only_refl wr none) n) (fun _ e => by cases e)) (only_drewN hg n) (.pointer none) (.pointer none) (.pointer none) (.int .i64 6) (.int .i64 (i : Int)))
        have HS : Hid (SplitFault t.data.toList 6 (i : Int)) := .head i ⟨hi5, hh, by rw [hh5, List.getElem?_eq_none (by rw [bytes_len]; exact hl)]; simp⟩
        unfold rsW at HE
        clear R0 hR hg hh
        go_wp2_with fail
        go_quiet (fail)
        go_wp2_with fail
        exact bodyPost_ret (rs_results rfl rfl (HE.out _).1 (HE.out _).2.1) rfl (.inr ⟨6, (i : Int), HS.out, rfl, (HE.out _).2.2⟩)
      · have hlt : i < t.data.toList.length := by rw [bytes_len]; omega
        have g1 : decide ((t.size : Int) ≤ (i : Int)) = false := by rw [decide_eq_false_iff_not]; omega
        have hl1 : (i : Int) < (t.size : Int) := by omega
        obtain ⟨u, hu⟩ : ∃ u : UInt8, t.data.toList[i]? = some u := ⟨_, List.getElem?_eq_getElem hlt⟩
        have x2 := index_at t i u hu
        by_cases he : u = h
        · subst he
          have HN : Hid (∀ j, j < i + 1 → t.data.toList[j]? = hd5[j]?) := fun j hj => by
            by_cases hji : j = i
            · rw [hji, hu, hh5]
            · exact hh j (by omega)
          have HR := Lib.hid hR
          have HG := Lib.hid hg
          clear R0 hR hg hh hu hh5 k0 k1 k2 l0 l1 l2 m0 m1 n0 n1 p0 p1 p2
          go_wp2_with fail
          go_quiet (fail)
          go_wp2_with fail
          go_roundw
          case rel => exact ⟨i + 1, by go_num, by omega, HN.out, HR.out.grown (only_drewN (only_refl _ none) _) (fun _ e => by cases e), only_drewN HG.out _⟩
          case measure => simp [intOf]; omega
        · have hne : ((u.toNat : Int) == (h.toNat : Int)) = false := by
            rw [beq_eq_false_iff_ne]
            intro e
            exact he (UInt8.toNat_inj.1 (by omega))
          have HE := Lib.hid (fun n => rs_end' (hR.grown (only_drewN (only_refl wr none) n) (fun _ e => by cases e)) (only_drewN hg n) (.pointer none) (.pointer none) (.pointer none) (.int .i64 6) (.int .i64 (i : Int)))
          have HS : Hid (SplitFault t.data.toList 6 (i : Int)) := .head i ⟨hi5, hh, by rw [hh5, hu]; intro e; injection e with e; exact he e⟩
          unfold rsW at HE
          clear R0 hR hg hh hu hh5 he
          go_wp2_with fail
          go_quiet (fail)
          go_wp2_with fail
          exact bodyPost_ret (rs_results rfl rfl (HE.out _).1 (HE.out _).2.1) rfl (.inr ⟨6, (i : Int), HS.out, rfl, (HE.out _).2.2⟩)
end Go.Proofs.YtjjfofifooailaaDoor

/- colloquylaw03.SectBack's walk. -/
import Derived.Test.YtjjfofifooailaaDoorSecK
import Derived.Test.YtjjfofifooailaaDoorSecY
import Derived.Test.YtjjfofifooailaaDoorSCuts
import Derived.ChangeKeysEq
namespace Go.Proofs.YtjjfofifooailaaDoor
open Go.RowKit

theorem cut_bytes (T : ByteArray) (p n : Nat) : (T.extract p (p + n)).data.toList = cut T.data.toList p n := by
  rw [ByteArray.data_extract, Array.toList_extract, List.extract_eq_take_drop, Nat.add_sub_cancel_left]
  rfl
/-- A section's text, as a piece of the whole. -/
theorem sec_text {T : ByteArray} {k a j p n : Nat} (h : SecOk T.data.toList k a j p n) : ∃ t : ByteArray, t.data.toList = cut T.data.toList p n ∧ T.extract p (p + t.size) = t ∧ p + t.size ≤ T.size ∧ t.size ≤ 65536 := by
  have hf := h.fits
  rw [bytes_len] at hf
  have hs : (T.extract p (p + n)).size = n := by rw [ByteArray.size_extract]; omega
  refine ⟨T.extract p (p + n), cut_bytes T p n, by rw [hs], by rw [hs]; exact hf, by rw [hs]; exact h.small⟩
theorem str_info : ∃ i, Tryd.prog.info? 9 = some i := by
  cases h : Tryd.prog.info? 9 with
  | some i => exact ⟨i, rfl⟩
  | none =>
    have : (Tryd.prog.info? 9).isSome = true := by kernel_rfl
    rw [h] at this
    cases this
theorem str_one : Tryd.prog.cellsOf 9 = 1 := by kernel_rfl
theorem neq_str3 (t1 t2 t3 : ByteArray) (W : World) : (binOp .neq 22 (.agg #[.string t1, .string t2, .string t3]) (.agg #[.string t1, .string t2, .string t3])).run Tryd.prog W = .ok (.bool false) W := by
  obtain ⟨i, hi⟩ := str_info
  have isAgg_s : (isAgg 9).run Tryd.prog W = .ok false W := by
    unfold isAgg
    rw [Sem.run_bind, run_underlying Tryd.underlying9 W]
    rfl
  rw [run_neq_struct, run_equalIn_array (P := Tryd.prog) W 9999 _ _ Tryd.underlying22 hi]
  simp [Op.eqItems, Sem.run_bind, str_one, part, isAgg_s, List.range, List.range.loop, run_equalIn_string, Tryd.underlying9, Result.andThen]

/-- What Split answers, in texts. -/
def SplitT (T : ByteArray) (w : World) (e : Ending) (w' : World) : Prop :=
  (∃ (t1 t2 t3 : ByteArray) (p1 p2 p3 q1 q2 q3 : Nat), e = .returned (.tuple #[.agg #[.pointer (some ⟨q1, 0, none⟩), .pointer (some ⟨q2, 0, none⟩), .pointer (some ⟨q3, 0, none⟩)], .nilIface]) ∧
    St w w' [⟨q1, t1.data.toList, 0, p1⟩, ⟨q2, t2.data.toList, 0, p2⟩, ⟨q3, t3.data.toList, 0, p3⟩] [] ∧ T.data.toList = joined t1.data.toList t2.data.toList t3.data.toList ∧
    (T.extract p1 (p1 + t1.size) = t1 ∧ p1 + t1.size ≤ T.size ∧ t1.size ≤ 65536) ∧ (T.extract p2 (p2 + t2.size) = t2 ∧ p2 + t2.size ≤ T.size ∧ t2.size ≤ 65536) ∧ (T.extract p3 (p3 + t3.size) = t3 ∧ p3 + t3.size ≤ T.size ∧ t3.size ≤ 65536)) ∨
  (∃ fb c y, SplitFault T.data.toList c y ∧ e = .returned (.tuple #[.agg #[.pointer none, .pointer none, .pointer none], .iface 74 (.pointer (some ⟨fb, 0, none⟩))]) ∧ St w w' [] [⟨fb, c, y⟩])
theorem split_t (T : ByteArray) (hT : T.size ≤ 4611686018427387904) (w : World) (hE : ErrType w) : Calls Tryd.prog 14 #[.string T] w (SplitT T w) := by
  refine (split_any T hT w hE).mono ?_
  rintro e w' (⟨x, q1, q2, q3, hx, rfl, hs⟩ | h)
  · obtain ⟨t1, a1, b1, c1, d1⟩ := sec_text hx.s1
    obtain ⟨t2, a2, b2, c2, d2⟩ := sec_text hx.s2
    obtain ⟨t3, a3, b3, c3, d3⟩ := sec_text hx.s3
    have hj := ok_joined hx
    rw [← a1, ← a2, ← a3] at hs hj
    exact .inl ⟨t1, t2, t3, x.p1, x.p2, x.p3, q1, q2, q3, rfl, hs, hj, ⟨b1, c1, d1⟩, ⟨b2, c2, d2⟩, b3, c3, d3⟩
  · exact .inr h
theorem joined_inj {t1 t2 t3 u1 u2 u3 : ByteArray} (h1 : t1.size ≤ 65536) (h2 : t2.size ≤ 65536) (h3 : t3.size ≤ 65536) (k1 : u1.size ≤ 65536) (k2 : u2.size ≤ 65536) (k3 : u3.size ≤ 65536)
    (h : joined t1.data.toList t2.data.toList t3.data.toList = joined u1.data.toList u2.data.toList u3.data.toList) : t1 = u1 ∧ t2 = u2 ∧ t3 = u3 := by
  obtain ⟨hok, c1, c2, c3⟩ := joined_ok t1.data.toList t2.data.toList t3.data.toList (by rw [bytes_len]; exact h1) (by rw [bytes_len]; exact h2) (by rw [bytes_len]; exact h3)
  obtain ⟨kok, e1, e2, e3⟩ := joined_ok u1.data.toList u2.data.toList u3.data.toList (by rw [bytes_len]; exact k1) (by rw [bytes_len]; exact k2) (by rw [bytes_len]; exact k3)
  rw [h] at hok c1 c2 c3
  have hp := split_one hok kok
  rw [hp] at c1 c2 c3
  have f1 := c1.symm.trans e1
  have f2 := c2.symm.trans e2
  have f3 := c3.symm.trans e3
  exact ⟨ByteArray.ext (Array.toList_inj.1 f1), ByteArray.ext (Array.toList_inj.1 f2), ByteArray.ext (Array.toList_inj.1 f3)⟩
theorem join_t {T t1 t2 t3 : ByteArray} (h1 : t1.size ≤ 65536) (h2 : t2.size ≤ 65536) (h3 : t3.size ≤ 65536) (h : T.data.toList = joined t1.data.toList t2.data.toList t3.data.toList) (w : World) :
    Calls Tryd.prog 13 #[.agg #[.string t1, .string t2, .string t3]] w fun e w' => e = .returned (.tuple #[.string T, .int .i64 0]) ∧ w.grownBy w' none := by
  have := join_ok t1 t2 t3 h1 h2 h3 w
  rw [← h, bytes_of_list rfl] at this
  exact this

/-- What stands between two rounds. -/
structure SB (w : World) (b7 b10 : Nat) (u1 u2 u3 : ByteArray) (A : Nat → ByteArray) (W : World) : Prop where
  st : St w W [] []
  bx : Blk W b7 22 #[.string u1, .string u2, .string u3]
  ba : Blk W b10 22 #[.string (A 0), .string (A 1), .string (A 2)]
theorem SB.at_ {w : World} {b7 b10 : Nat} {u1 u2 u3 : ByteArray} {A : Nat → ByteArray} {W : World} (h : SB w b7 b10 u1 u2 u3 A W) {i : Nat} (hi : i < 3) : W.cell? ⟨b10, i, none⟩ = some (.string (A i)) := by
  have hk : i = 0 ∨ i = 1 ∨ i = 2 := by omega
  rcases hk with rfl | rfl | rfl <;> exact h.ba.cell _

/-- What stands while the texts of one split are gathered. -/
structure IB (wr : World) (b7 b10 nr q1 q2 q3 : Nat) (u1 u2 u3 : ByteArray) (A : Nat → ByteArray) (rs : List RD) (g1 g2 g3 : ByteArray) (W : World) : Prop where
  st : St wr W rs []
  rr : Blk W nr 37 #[.pointer (some ⟨q1, 0, none⟩), .pointer (some ⟨q2, 0, none⟩), .pointer (some ⟨q3, 0, none⟩)]
  gg : Blk W (nr + 1) 22 #[.string g1, .string g2, .string g3]
  bx : Blk W b7 22 #[.string u1, .string u2, .string u3]
  ba : Blk W b10 22 #[.string (A 0), .string (A 1), .string (A 2)]
  l0 : wr.heap.size ≤ nr
  l7 : b7 < nr
  l10 : b10 < nr
section
variable {wr W W' : World} {b7 b10 nr q1 q2 q3 : Nat} {u1 u2 u3 g1 g2 g3 : ByteArray} {A : Nat → ByteArray} {rs rs' : List RD}
theorem IB.at_ (h : IB wr b7 b10 nr q1 q2 q3 u1 u2 u3 A rs g1 g2 g3 W) {i : Nat} (hi : i < 3) : W.cell? ⟨b10, i, none⟩ = some (.string (A i)) := by
  have hk : i = 0 ∨ i = 1 ∨ i = 2 := by omega
  rcases hk with rfl | rfl | rfl <;> exact h.ba.cell _
theorem IB.rest (h : IB wr b7 b10 nr q1 q2 q3 u1 u2 u3 A rs g1 g2 g3 W) (s : St wr W' rs' []) (k : ∀ k ty cs, ty ≠ 91 → Blk W k ty cs → Blk W' k ty cs) : IB wr b7 b10 nr q1 q2 q3 u1 u2 u3 A rs' g1 g2 g3 W' :=
  ⟨s, k _ _ _ (by decide) h.rr, k _ _ _ (by decide) h.gg, k _ _ _ (by decide) h.bx, k _ _ _ (by decide) h.ba, h.l0, h.l7, h.l10⟩
theorem IB.put (h : IB wr b7 b10 nr q1 q2 q3 u1 u2 u3 A rs g1 g2 g3 W) (k : Nat) (t g1' g2' g3' : ByteArray) (hk : (#[.string g1, .string g2, .string g3] : Array Value).setIfInBounds k (.string t) = #[.string g1', .string g2', .string g3']) :
    IB wr b7 b10 nr q1 q2 q3 u1 u2 u3 A rs g1' g2' g3' (W.setCell ⟨nr + 1, k, none⟩ (.string t)) := by
  have e1 : W.grownBy (W.setCell ⟨nr + 1, k, none⟩ (.string t)) (some (nr + 1)) := only_setCell (only_refl _ _) rfl _
  have l0 := h.l0
  have l7 := h.l7
  have l10 := h.l10
  refine ⟨h.st.turn e1 (by omega) h.gg (by decide) (by decide) (by decide), h.rr.grown e1 (fun e => by injection e with e; omega), ?_, h.bx.grown e1 (fun e => by injection e with e; omega), h.ba.grown e1 (fun e => by injection e with e; omega), l0, l7, l10⟩
  have := h.gg.set_ k (.string t)
  rw [hk] at this
  exact this
theorem IB.new (h : IB wr b7 b10 nr q1 q2 q3 u1 u2 u3 A rs g1 g2 g3 W) (hg : W.grownBy W' none) : IB wr b7 b10 nr q1 q2 q3 u1 u2 u3 A rs g1 g2 g3 W' :=
  ⟨h.st.none_ hg, h.rr.kept hg, h.gg.kept hg, h.bx.kept hg, h.ba.kept hg, h.l0, h.l7, h.l10⟩
end

set_option maxRecDepth 100000 in
set_option maxHeartbeats 4000000 in
theorem sback_any (s1 s2 s3 s : ByteArray) (a y z : Int) (ha0 : 0 ≤ a) (ha : a < 65536) (hz0 : -9223372036854775808 ≤ z) (hz : z ≤ 9223372036854775807) (w : World) (hE : ErrType w) :
    Calls Tryd.prog 5 #[.agg #[.string s1, .string s2, .string s3], .string s, .agg #[.int .u16 a, .int .u8 y, .int .i64 z]] w fun e w' => e = .returned (.bool true) ∧ w.grownBy w' none := by
  have g0 : w.grownBy ((w.alloc (.cells #[.string s1, .string s2, .string s3] 22)).alloc (.cells #[.int .u16 a, .int .u8 y, .int .i64 z] 25)) none := only_alloc (only_alloc (only_refl _ _) _) _
  have s0 := (St.start hE).none_ g0
  have B0 := (Blk.new w 22 #[.string s1, .string s2, .string s3]).alloc (.cells #[.int .u16 a, .int .u8 y, .int .i64 z] 25)
  have D0 := Blk.new' (w := w.alloc (.cells #[.string s1, .string s2, .string s3] 22)) (n := w.heap.size + 1) (by simp) 25 #[.int .u16 a, .int .u8 y, .int .i64 z]
  clear g0
  go_enter Tryd.func5, Tryd.ntmps5
  go_wp2_with fail
  refine (sworks_any _ s0.err).mono ?_
  rintro e w1 ⟨rfl, g1⟩
  have s1' := s0.none_ g1
  have B1 := B0.kept g1
  have D1 := D0.kept g1
  have c0 := B1.cell 0
  have c1 := B1.cell 1
  have c2 := B1.cell 2
  clear s0 B0 B1 D0 g1
  go_wp2_with fail
  refine (texts_any s1 s2 s3 0 (by omega) (by omega) _).mono ?_
  rintro e w2 ⟨u1, u2, u3, rfl, h1, h2, h3, g2⟩
  have h1' : u1.size ≤ 300 := by omega
  have X2 := Blk.new w2 22 #[.string u1, .string u2, .string u3]
  have g2' := only_trans g2 (only_alloc (only_refl w2 none) (.cells #[.string u1, .string u2, .string u3] 22))
  have s2' := s1'.none_ g2'
  have D2 := D1.kept g2'
  obtain ⟨J, hJl⟩ : ∃ J : ByteArray, J.data.toList = joined u1.data.toList u2.data.toList u3.data.toList := ⟨⟨(joined u1.data.toList u2.data.toList u3.data.toList).toArray⟩, rfl⟩
  have hJs : J.size ≤ 1000 := by
    rw [← bytes_len, hJl]
    have l1 := sev_short (n := u1.data.toList.length) (by rw [bytes_len]; omega)
    have l2 := sev_short (n := u2.data.toList.length) (by rw [bytes_len]; omega)
    have l3 := sev_short (n := u3.data.toList.length) (by rw [bytes_len]; omega)
    have e1 := bytes_len u1
    have e2 := bytes_len u2
    have e3 := bytes_len u3
    simp only [joined, List.length_append, sec_len]
    have : hd5.length = 5 := rfl
    omega
  clear s1' g2 g2' c0 c1 c2 h1 D1
  go_wp2_with fail
  refine (join_t (T := J) (by omega) (by omega) (by omega) hJl _).mono ?_
  rintro e w3 ⟨rfl, g3⟩
  have s3' := s2'.none_ g3
  have X3 := X2.kept g3
  have D3 := D2.kept g3
  have HT := fun W => turned_any J (by omega) a y z ha0 ha hz0 hz W
  clear s2' g3 X2 D2
  have d0 := D3.cell 0
  have d1 := D3.cell 1
  have d2 := D3.cell 2
  have hlt := D3.lt
  have DA := D3.alloc (.cells #[.string ⟨#[]⟩, .string ⟨#[]⟩, .string ⟨#[]⟩] 22)
  have i0 := DA.cell 0
  have i1 := DA.cell 1
  have i2 := DA.cell 2
  have j0 := DA.drew.cell 0
  have j1 := DA.drew.cell 1
  have j2 := DA.drew.cell 2
  clear DA
  have HM : Hid (∀ (r s' : ByteArray) (W : World), r.size ≤ J.size → s'.size ≤ 2000 → w3.grownBy W none → ∃ A : Nat → ByteArray, A 0 = J ∧ (∀ i, (A i).size ≤ 2000) ∧ SB w w2.heap.size W.heap.size u1 u2 u3 A (W.alloc (.cells #[.string J, .string r, .string s'] 22))) := by
    intro r s' W hr hs hg
    refine ⟨fun i => if i = 0 then J else if i = 1 then r else s', rfl, fun i => ?_, (s3'.none_ hg).none_ (only_alloc (only_refl _ _) _), (X3.kept hg).alloc _, Blk.new W _ _⟩
    dsimp only
    split
    · omega
    · split <;> omega
  have HM2 : Hid (∀ (r s' : ByteArray) (W : World), r.size ≤ J.size → s'.size ≤ 2000 → (w3.alloc (.cells #[.string ⟨#[]⟩, .string ⟨#[]⟩, .string ⟨#[]⟩] 22)).drew.grownBy W none → ∃ A : Nat → ByteArray, A 0 = J ∧ (∀ i, (A i).size ≤ 2000) ∧ SB w w2.heap.size w3.heap.size u1 u2 u3 A (((W.setCell ⟨w3.heap.size, 0, none⟩ (.string J)).setCell ⟨w3.heap.size, 1, none⟩ (.string r)).setCell ⟨w3.heap.size, 2, none⟩ (.string s'))) := by
    intro r s' W hr hs hg
    have hg' : w3.grownBy W none := only_trans (only_drew (only_alloc (only_refl w3 none) (.cells #[.string ⟨#[]⟩, .string ⟨#[]⟩, .string ⟨#[]⟩] 22))) hg
    have hb := ((Blk.new w3 22 #[.string ⟨#[]⟩, .string ⟨#[]⟩, .string ⟨#[]⟩]).drew).kept hg
    have hx := X3.lt
    have hs3 := s3'.step.size
    have e1 : W.grownBy (((W.setCell ⟨w3.heap.size, 0, none⟩ (.string J)).setCell ⟨w3.heap.size, 1, none⟩ (.string r)).setCell ⟨w3.heap.size, 2, none⟩ (.string s')) (some w3.heap.size) := only_setCell (only_setCell (only_setCell (only_refl _ _) (p := ⟨w3.heap.size, 0, none⟩) rfl _) (p := ⟨w3.heap.size, 1, none⟩) rfl _) (p := ⟨w3.heap.size, 2, none⟩) rfl _
    refine ⟨fun i => if i = 0 then J else if i = 1 then r else s', rfl, fun i => ?_, (s3'.none_ hg').turn e1 hs3 hb (by decide) (by decide) (by decide), (X3.kept hg').grown e1 (fun e => by injection e with e; omega), ((hb.set_ 0 (.string J)).set_ 1 (.string r)).set_ 2 (.string s')⟩
    dsimp only
    split
    · omega
    · split <;> omega
  go_upto_region 7 with fail
  go_cut [10] (fun v wx => ∃ (b10 : Nat) (A : Nat → ByteArray), v = .pointer (some ⟨b10, 0, none⟩) ∧ A 0 = J ∧ (∀ i, (A i).size ≤ 2000) ∧ SB w w2.heap.size b10 u1 u2 u3 A wx)
  case first =>
    clear hJl X3 s3' D3
    rcases Int.lt_or_le 2000 (s.size : Int) with d | d
    · have dd : (2000 : Int) ≤ (s.size : Int) := by omega
      have dz : (0 : Int) ≤ (2000 : Int) := by omega
      have dq : (s.extract 0 2000).size ≤ 2000 := by rw [ByteArray.size_extract]; omega
      go_region_with (go_at_call 11; refine (HT _).mono ?_; rintro e w4 ⟨r, rfl, hr, g4⟩; first | (have hb := ((Blk.new w3 22 #[.string ⟨#[]⟩, .string ⟨#[]⟩, .string ⟨#[]⟩]).drew).kept g4; have q0 := hb.cell 0; have q1 := hb.cell 1; have q2 := hb.cell 2; have r0 := hb.frozen 0; have r1 := hb.frozen 1; have r2 := hb.frozen 2) | skip)
      all_goals
        go_wp2_with fail
        go_meet
        first
          | (obtain ⟨A, k1, k2, k3⟩ := HM.out r (s.extract 0 2000) _ hr dq (only_trans (only_drew (only_refl w3 none)) g4); exact ⟨_, A, rfl, k1, k2, k3⟩)
          | (obtain ⟨A, k1, k2, k3⟩ := HM2.out r (s.extract 0 2000) _ hr dq g4; exact ⟨_, A, rfl, k1, k2, k3⟩)
    · have dd : (s.size : Int) ≤ (s.size : Int) := by omega
      have dz : (0 : Int) ≤ (s.size : Int) := by omega
      have dq : s.size ≤ 2000 := by omega
      go_region_with (go_at_call 11; refine (HT _).mono ?_; rintro e w4 ⟨r, rfl, hr, g4⟩; first | (have hb := ((Blk.new w3 22 #[.string ⟨#[]⟩, .string ⟨#[]⟩, .string ⟨#[]⟩]).drew).kept g4; have q0 := hb.cell 0; have q1 := hb.cell 1; have q2 := hb.cell 2; have r0 := hb.frozen 0; have r1 := hb.frozen 1; have r2 := hb.frozen 2) | skip)
      all_goals
        go_wp2_with fail
        go_meet
        first
          | (obtain ⟨A, k1, k2, k3⟩ := HM.out r s _ hr dq (only_trans (only_drew (only_refl w3 none)) g4); exact ⟨_, A, rfl, k1, k2, k3⟩)
          | (obtain ⟨A, k1, k2, k3⟩ := HM2.out r s _ hr dq g4; exact ⟨_, A, rfl, k1, k2, k3⟩)
  case rest =>
    obtain ⟨b10, A, rfl, hA0, hA, hS⟩ := hcut
    clear HM HM2 HT d0 d1 d2 i0 i1 i2 j0 j1 j2 D3 X3 s3'
    go_wp2_with fail
    go_loopw [11] (fun v wr => ∃ i : Nat, v = .int .i64 (i : Int) ∧ i ≤ 3 ∧ SB w w2.heap.size b10 u1 u2 u3 A wr) (fun v _ => (3 - intOf v).toNat)
    case atStart => exact ⟨0, rfl, by omega, hS⟩
    case round =>
      obtain ⟨i, rfl, hi, hB⟩ := hrel
      by_cases h3 : i = 3
      · subst h3
        go_wp2_with fail
        go_ret
        exact ⟨rfl, hB.st.step⟩
      · have hi3 : i < 3 := by omega
        have hi3' : (i : Int) < 3 := by omega
        have hi0 : (0 : Int) ≤ (i : Int) := by omega
        have ca := hB.at_ hi3
        have HS := fun W hE => split_t (A i) (by have := hA i; omega) W hE
        have hfirst : i = 0 → A i = J := fun e => by rw [e]; exact hA0
        clear hi h3 hS
        go_wp2_with fail
        refine (HS _ hB.st.err).mono ?_
        clear HS
        rintro e w5 (⟨t1, t2, t3, p1, p2, p3, q1, q2, q3, rfl, k5, hj, ⟨x1, y1, z1⟩, ⟨x2, y2, z2⟩, x3, y3, z3⟩ | ⟨fb, c, y', hf, rfl, k5⟩)
        · have hsame : i = 0 → t1 = u1 ∧ t2 = u2 ∧ t3 = u3 := fun e => joined_inj z1 z2 z3 (by omega) (by omega) (by omega) (by rw [← hj, hfirst e]; exact hJl)
          have G6 : wr.grownBy ((w5.alloc (.cells #[.pointer (some ⟨q1, 0, none⟩), .pointer (some ⟨q2, 0, none⟩), .pointer (some ⟨q3, 0, none⟩)] 37)).alloc (.cells #[.string ⟨#[]⟩, .string ⟨#[]⟩, .string ⟨#[]⟩] 22)) none := only_trans k5.step (only_alloc (only_alloc (only_refl _ _) _) _)
          have hsz := k5.step.size
          have I6 : IB wr w2.heap.size b10 w5.heap.size q1 q2 q3 u1 u2 u3 A [⟨q1, t1.data.toList, 0, p1⟩, ⟨q2, t2.data.toList, 0, p2⟩, ⟨q3, t3.data.toList, 0, p3⟩] ⟨#[]⟩ ⟨#[]⟩ ⟨#[]⟩ ((w5.alloc (.cells #[.pointer (some ⟨q1, 0, none⟩), .pointer (some ⟨q2, 0, none⟩), .pointer (some ⟨q3, 0, none⟩)] 37)).alloc (.cells #[.string ⟨#[]⟩, .string ⟨#[]⟩, .string ⟨#[]⟩] 22)) :=
            ⟨k5.none_ (only_alloc (only_alloc (only_refl w5 none) _) _), (Blk.new w5 _ _).alloc _, Blk.new' (by simp) _ _, hB.bx.kept G6, hB.ba.kept G6, hsz, Nat.lt_of_lt_of_le hB.bx.lt hsz, Nat.lt_of_lt_of_le hB.ba.lt hsz⟩
          have HG := Lib.hid hB.st
          have y1' : (p1 : Int) + (t1.size : Int) ≤ ((A i).size : Int) := by omega
          have y1'' : (p1 : Int) + (t1.size : Int) ≤ 2000 := by have := hA i; omega
          have n1' : (0 : Int) ≤ (p1 : Int) := by omega
          have n1'' : (0 : Int) ≤ (t1.size : Int) := by omega
          have x1' : (A i).extract p1 ((p1 : Int) + (t1.size : Int)).toNat = t1 := by rw [show ((p1 : Int) + (t1.size : Int)).toNat = p1 + t1.size by omega]; exact x1
          have y2' : (p2 : Int) + (t2.size : Int) ≤ ((A i).size : Int) := by omega
          have y2'' : (p2 : Int) + (t2.size : Int) ≤ 2000 := by have := hA i; omega
          have n2' : (0 : Int) ≤ (p2 : Int) := by omega
          have n2'' : (0 : Int) ≤ (t2.size : Int) := by omega
          have x2' : (A i).extract p2 ((p2 : Int) + (t2.size : Int)).toNat = t2 := by rw [show ((p2 : Int) + (t2.size : Int)).toNat = p2 + t2.size by omega]; exact x2
          have y3' : (p3 : Int) + (t3.size : Int) ≤ ((A i).size : Int) := by omega
          have y3'' : (p3 : Int) + (t3.size : Int) ≤ 2000 := by have := hA i; omega
          have n3' : (0 : Int) ≤ (p3 : Int) := by omega
          have n3'' : (0 : Int) ≤ (t3.size : Int) := by omega
          have x3' : (A i).extract p3 ((p3 : Int) + (t3.size : Int)).toNat = t3 := by rw [show ((p3 : Int) + (t3.size : Int)).toNat = p3 + t3.size by omega]; exact x3
          have HJ := fun W => join_t z1 z2 z3 hj W
          have HZ := Lib.hid (And.intro z1 (And.intro z2 z3))
          clear k5 G6 hsz hj hfirst hB ca z1 z2 z3 y1 y2 y3
          go_wp2_with fail
          refine wp_loop_rounds 4 ?_
          have l1 := I6.rr.cell 0
          rw [rounds_succ]
          go_wp2_with fail
          refine (rest_st (t := t1) I6.st p1 rfl).mono ?_
          rintro e v1 ⟨rfl, m1, n1⟩
          have J1 := I6.rest m1 n1
          have I7 := J1.put 0 t1 t1 ⟨#[]⟩ ⟨#[]⟩ rfl
          have c1 := J1.at_ hi3
          have f1 := J1.gg.cell 0
          have r1 := J1.gg.frozen 0
          clear I6 m1 n1 J1 l1
          go_wp2_with fail
          clear c1 f1 r1
          have l2 := I7.rr.cell 1
          rw [rounds_succ]
          go_wp2_with fail
          refine (rest_st (t := t2) I7.st p2 rfl).mono ?_
          rintro e v2 ⟨rfl, m2, n2⟩
          have J2 := I7.rest m2 n2
          have I8 := J2.put 1 t2 t1 t2 ⟨#[]⟩ rfl
          have c2 := J2.at_ hi3
          have f2 := J2.gg.cell 1
          have r2 := J2.gg.frozen 1
          clear I7 m2 n2 J2 l2
          go_wp2_with fail
          clear c2 f2 r2
          have l3 := I8.rr.cell 2
          rw [rounds_succ]
          go_wp2_with fail
          refine (rest_st (t := t3) I8.st p3 rfl).mono ?_
          rintro e v3 ⟨rfl, m3, n3⟩
          have J3 := I8.rest m3 n3
          have I9 := J3.put 2 t3 t1 t2 t3 rfl
          have c3 := J3.at_ hi3
          have f3 := J3.gg.cell 2
          have r3 := J3.gg.frozen 2
          clear I8 m3 n3 J3 l3
          go_wp2_with fail
          clear c3 f3 r3
          have l0 := I9.gg.cell 0
          have l1 := I9.gg.cell 1
          have l2 := I9.gg.cell 2
          rw [rounds_succ]
          go_wp2_with fail
          refine (HJ _).mono ?_
          clear HJ l0 l1 l2
          rintro e v4 ⟨rfl, g4⟩
          have I10 := I9.new g4
          have ca := I10.at_ hi3
          have HN : Hid (SB w w2.heap.size b10 u1 u2 u3 A v4) := ⟨HG.out.none_ I10.st.step, I10.bx, I10.ba⟩
          clear I9 g4
          rcases Nat.eq_zero_or_pos i with h0 | h0
          · obtain ⟨rfl, rfl, rfl⟩ := hsame h0
            have hne' : ((i : Int) == 0) = true := by rw [beq_iff_eq]; omega
            have l0 := I10.gg.cell 0
            have l1 := I10.gg.cell 1
            have l2 := I10.gg.cell 2
            have m0 := I10.bx.cell 0
            have m1 := I10.bx.cell 1
            have m2 := I10.bx.cell 2
            have hq := neq_str3 t1 t2 t3
            clear I10 hsame h0
            go_wp2_with fail
            go_roundw
            case rel => exact ⟨i + 1, by go_num, by omega, HN.out⟩
            case measure => simp [intOf]; omega
          · have hne' : ((i : Int) == 0) = false := by rw [beq_eq_false_iff_ne]; omega
            clear I10 hsame
            go_wp2_with fail
            go_roundw
            case rel => exact ⟨i + 1, by go_num, by omega, HN.out⟩
            case measure => simp [intOf]; omega
        · have hne : i ≠ 0 := by
            intro e
            rw [hfirst e, hJl] at hf
            exact split_not hf (joined_ok u1.data.toList u2.data.toList u3.data.toList (by rw [bytes_len]; omega) (by rw [bytes_len]; omega) (by rw [bytes_len]; omega)).1
          have hne' : ((i : Int) == 0) = false := by rw [beq_eq_false_iff_ne]; omega
          have G5 := only_trans k5.step (only_alloc (only_refl w5 none) (.cells #[.pointer none, .pointer none, .pointer none] 37))
          have HN : Hid (SB w w2.heap.size b10 u1 u2 u3 A (w5.alloc (.cells #[.pointer none, .pointer none, .pointer none] 37))) := ⟨hB.st.none_ G5, hB.bx.kept G5, hB.ba.kept G5⟩
          clear k5 hf hne hfirst hB G5 ca
          go_wp2_with fail
          go_roundw
          case rel => exact ⟨i + 1, by go_num, by omega, HN.out⟩
          case measure => simp [intOf]; omega
end Go.Proofs.YtjjfofifooailaaDoor

/- colloquylaw03.SectSplits' walk: alike (both Splits say the same of any bytes), and the statement. -/
import Derived.Test.YtjjfofifooailaaDoorSecQ
import Derived.Test.YtjjfofifooailaaDoorSecD
import Derived.Test.YtjjfofifooailaaDoorSecL
import Derived.Test.YtjjfofifooailaaDoorSJoins
import Derived.Test.YtjjfofifooailaaDoorSecY
namespace Go.Proofs.YtjjfofifooailaaDoor
open Go.RowKit

structure AE where
  q : Nat
  r : Nat
  s : ByteArray
  p : Nat
def aq (l : List AE) (i : Nat) : Value := match l[i]? with | some e => .pointer (some ⟨e.q, 0, none⟩) | none => .pointer none
def ar (l : List AE) (i : Nat) : Value := match l[i]? with | some e => .pointer (some ⟨e.r, 0, none⟩) | none => .pointer none
def ard (e : AE) : RD := ⟨e.q, e.s.data.toList, 0, e.p⟩
/-- What stands between two rounds of alike. -/
structure AI (w : World) (A B : Nat) (l : List AE) (k : Nat) (W : World) : Prop where
  a : Blk W A 37 #[aq l 0, aq l 1, aq l 2]
  b : Blk W B 54 #[ar l 0, ar l 1, ar l 2]
  st : St w W ((l.drop k).map ard) []
  refs : ∀ e ∈ l, Blk W e.r 58 #[.string e.s, .int .i64 0, .int .i64 (e.p : Int)]
theorem AI.none_ {w : World} {A B k : Nat} {l : List AE} {W W' : World} (h : AI w A B l k W) (hg : W.grownBy W' none) : AI w A B l k W' :=
  ⟨h.a.grown hg (fun e => by cases e), h.b.grown hg (fun e => by cases e), h.st.none_ hg, fun e he => (h.refs e he).grown hg (fun e => by cases e)⟩
theorem AI.at_ {w : World} {A B k : Nat} {l : List AE} {W : World} (h : AI w A B l k W) (hl : l.length = 3) (hk : k < 3) :
    ∃ e, e ∈ l ∧ W.cell? ⟨A, k, none⟩ = some (.pointer (some ⟨e.q, 0, none⟩)) ∧ W.cell? ⟨B, k, none⟩ = some (.pointer (some ⟨e.r, 0, none⟩)) ∧ St w W (⟨e.q, e.s.data.toList, 0, e.p⟩ :: (l.drop (k + 1)).map ard) [] := by
  match l, k, hl, hk with
  | [e0, e1, e2], 0, _, _ => exact ⟨e0, by simp, h.a.cell 0, h.b.cell 0, h.st⟩
  | [e0, e1, e2], 1, _, _ => exact ⟨e1, by simp, h.a.cell 1, h.b.cell 1, h.st⟩
  | [e0, e1, e2], 2, _, _ => exact ⟨e2, by simp, h.a.cell 2, h.b.cell 2, h.st⟩
theorem AI.next {w : World} {A B k : Nat} {l : List AE} {W W' : World} (h : AI w A B l k W) (hs : St w W' ((l.drop (k + 1)).map ard) []) (hf : ∀ k ty cs, ty ≠ 91 → Blk W k ty cs → Blk W' k ty cs) : AI w A B l (k + 1) W' :=
  ⟨hf _ _ _ (by decide) h.a, hf _ _ _ (by decide) h.b, hs, fun e he => hf _ _ _ (by decide) (h.refs e he)⟩
theorem rplace_p {w : World} {r p : Nat} {s : ByteArray} (h : Blk w r 58 #[.string s, .int .i64 0, .int .i64 (p : Int)]) (hp : p + s.size ≤ 4611686018427387904) :
    Calls Tryd.prog 20 #[.pointer (some ⟨r, 0, none⟩)] w fun e w' => e = .returned (.int .i64 (p : Int)) ∧ w.grownBy w' none :=
  (rplace_any (w := w) (q := r) (a := 0) (bg := p) (bs := s.data.toList) ⟨s, h, rfl, Nat.zero_le _, by rw [bytes_len]; exact hp⟩).mono fun _ _ ⟨h1, h2⟩ => ⟨by rw [h1]; simp, h2⟩

set_option maxRecDepth 100000 in
set_option maxHeartbeats 4000000 in
theorem alike_any (t : ByteArray) (ht : t.size ≤ 1000000) (w : World) (hE : ErrType w) :
    Calls Tryd.prog 10 #[.string t] w fun e w' => e = .returned (.bool true) ∧ w.grownBy w' none := by
  have HS := split_any t (by omega) w hE
  have HR := fun W => rsplit_any t ht W
  generalize hb : t.data.toList = b at *
  have hbl : b.length ≤ 1000000 := by rw [← hb, bytes_len]; exact ht
  clear hb ht
  go_enter Tryd.func10, Tryd.ntmps10
  go_wp2_with fail
  refine HS.mono ?_
  clear HS
  rintro e w1 (⟨x, q1, q2, q3, hx, rfl, hs⟩ | ⟨fb, c, y, hf, rfl, hs⟩)
  · have sa := hs.none_ (only_alloc (only_refl w1 none) (.cells #[.pointer (some ⟨q1, 0, none⟩), .pointer (some ⟨q2, 0, none⟩), .pointer (some ⟨q3, 0, none⟩)] 37))
    have BA := Blk.new w1 37 #[.pointer (some ⟨q1, 0, none⟩), .pointer (some ⟨q2, 0, none⟩), .pointer (some ⟨q3, 0, none⟩)]
    clear hs
    go_wp2_with fail
    refine (HR _).mono ?_
    clear HR
    rintro e w2 (⟨x', r1, r2, r3, hx', rfl, g2, P1, P2, P3⟩ | ⟨c, y, hf, rfl, g2⟩)
    · obtain rfl := split_one hx hx'
      obtain ⟨s1, k1, e1, _, z1⟩ := P1
      obtain ⟨s2, k2, e2, _, z2⟩ := P2
      obtain ⟨s3, k3, e3, _, z3⟩ := P3
      rw [← e1, bytes_len] at z1
      rw [← e2, bytes_len] at z2
      rw [← e3, bytes_len] at z3
      have gk := only_alloc (only_alloc g2 (.cells #[.pointer (some ⟨r1, 0, none⟩), .pointer (some ⟨r2, 0, none⟩), .pointer (some ⟨r3, 0, none⟩)] 54)) (.cells #[.int .i64 0, .int .i64 0] 47)
      have gm := only_alloc (only_alloc (only_refl w2 none) (.cells #[.pointer (some ⟨r1, 0, none⟩), .pointer (some ⟨r2, 0, none⟩), .pointer (some ⟨r3, 0, none⟩)] 54)) (.cells #[.int .i64 0, .int .i64 0] 47)
      have su := sa.none_ gk
      rw [← e1, ← e2, ← e3] at su
      have A2 := BA.kept gk
      have B2 := (Blk.new w2 54 #[.pointer (some ⟨r1, 0, none⟩), .pointer (some ⟨r2, 0, none⟩), .pointer (some ⟨r3, 0, none⟩)]).alloc (.cells #[.int .i64 0, .int .i64 0] 47)
      have F2 := Blk.new' (w := w2.alloc (.cells #[.pointer (some ⟨r1, 0, none⟩), .pointer (some ⟨r2, 0, none⟩), .pointer (some ⟨r3, 0, none⟩)] 54)) (n := w2.heap.size + 1) (by simp) 47 #[.int .i64 0, .int .i64 0]
      have f0 := F2.cell 0
      have f1 := F2.cell 1
      have I0 : AI w w1.heap.size w2.heap.size [⟨q1, r1, s1, x.p1⟩, ⟨q2, r2, s2, x.p2⟩, ⟨q3, r3, s3, x.p3⟩] 0 _ :=
        ⟨A2, B2, su, fun e he => by
          simp only [List.mem_cons, List.not_mem_nil, or_false] at he
          rcases he with rfl | rfl | rfl
          · exact k1.kept gm
          · exact k2.kept gm
          · exact k3.kept gm⟩
      have hz : ∀ e ∈ [(⟨q1, r1, s1, x.p1⟩ : AE), ⟨q2, r2, s2, x.p2⟩, ⟨q3, r3, s3, x.p3⟩], e.p + e.s.size ≤ 4611686018427387904 := fun e he => by
          simp only [List.mem_cons, List.not_mem_nil, or_false] at he
          rcases he with rfl | rfl | rfl
          · exact z1
          · exact z2
          · exact z3
      have hl : [(⟨q1, r1, s1, x.p1⟩ : AE), ⟨q2, r2, s2, x.p2⟩, ⟨q3, r3, s3, x.p3⟩].length = 3 := rfl
      have HT := told_nil 0
      clear hx hx' k1 k2 k3 e1 e2 e3 z1 z2 z3 su A2 B2 F2 sa BA g2 gk gm
      go_wp2_with fail
      refine (HT _).mono ?_
      clear HT f0 f1
      rintro e w3 ⟨rfl, g3⟩
      replace I0 := I0.none_ g3
      clear g3
      generalize [(⟨q1, r1, s1, x.p1⟩ : AE), ⟨q2, r2, s2, x.p2⟩, ⟨q3, r3, s3, x.p3⟩] = l at *
      generalize w1.heap.size = A at *
      generalize w2.heap.size = B at *
      go_wp2_with fail
      go_loopw [7] (fun v wr => ∃ k : Nat, v = .int .i64 (k : Int) ∧ k ≤ 3 ∧ AI w A B l k wr) (fun v _ => (3 - intOf v).toNat)
      case atStart => exact ⟨0, rfl, by omega, I0⟩
      case round =>
        obtain ⟨k, rfl, hk, I⟩ := hrel
        clear I0
        by_cases h3 : k = 3
        · subst h3
          have g := I.st.step
          clear I
          simp only [Int.cast_ofNat_Int]
          go_wp2_with fail
          go_ret
          exact ⟨rfl, g⟩
        · have hk3 : k < 3 := by omega
          have hk3' : (k : Int) < 3 := by omega
          have hk0 : (0 : Int) ≤ (k : Int) := by omega
          obtain ⟨e, he, cA, cB, hst⟩ := I.at_ hl hk3
          have I' := Lib.hid I
          clear I h3 hk
          obtain ⟨q, r, s, p⟩ := e
          have hzr := Lib.hid (hz _ he)
          have hrf := Lib.hid (I'.out.refs _ he)
          have hst' := Lib.hid hst
          clear he hst
          dsimp only at hzr hrf hst' cA cB
          go_wp2_with fail
          go_quiet (fail)
          go_wp2_with fail
          refine (rest_st (hst'.out.drewN _) _ rfl).mono ?_
          rintro e w5 ⟨rfl, hs5, hf5⟩
          have I4 := I'.out.none_ (only_drewN (only_refl wr none) nq)
          have I5 := I4.next hs5 hf5
          have c5 : w5.cell? ⟨B, k, none⟩ = some (.pointer (some ⟨r, 0, none⟩)) := (I5.b.cell k).trans ((I'.out.b.cell k).symm.trans cB)
          have hr5 := hf5 _ _ _ (by decide) (hrf.out.kept (only_drewN (only_refl wr none) nq))
          have d5 := hr5.cell 0
          have HP := rplace_p hr5 hzr.out
          have J5 := Lib.hid I5
          clear I4 I5 hr5 hf5 hs5 cA cB hrf hzr hst' I'
          go_wp2_with fail
          refine HP.mono ?_
          clear HP c5 d5
          rintro e w6 ⟨rfl, g6⟩
          go_wp2_with fail
          go_roundw
          case rel => exact ⟨k + 1, by simp, by omega, J5.out.none_ g6⟩
          case measure => simp [intOf]; omega
    · exact (split_not hf hx).elim
  · have sa := hs.none_ (only_alloc (only_refl w1 none) (.cells #[.pointer none, .pointer none, .pointer none] 37))
    have BA := Blk.new w1 37 #[.pointer none, .pointer none, .pointer none]
    clear hs
    go_wp2_with fail
    refine (HR _).mono ?_
    clear HR
    rintro e w2 (⟨x', r1, r2, r3, hx', rfl, g2, P1, P2, P3⟩ | ⟨c', y', hf', rfl, g2⟩)
    · exact (split_not hf hx').elim
    · obtain ⟨rfl, rfl⟩ := splitf_one hf hf'
      have hc := split_code hf
      have gk := only_alloc (only_alloc g2 (.cells #[.pointer none, .pointer none, .pointer none] 54)) (.cells #[.int .i64 c, .int .i64 y] 47)
      have s2 := sa.none_ gk
      have A2 := BA.kept gk
      have B2 := (Blk.new w2 54 #[.pointer none, .pointer none, .pointer none]).alloc (.cells #[.int .i64 c, .int .i64 y] 47)
      have F2 := Blk.new' (w := w2.alloc (.cells #[.pointer none, .pointer none, .pointer none] 54)) (n := w2.heap.size + 1) (by simp) 47 #[.int .i64 c, .int .i64 y]
      have f0 := F2.cell 0
      have f1 := F2.cell 1
      have HT := told_hit fb c y _ s2.err (s2.flt ⟨fb, c, y⟩ (List.mem_singleton.2 rfl)) hc
      clear hf hf' hc sa BA g2 gk F2
      go_wp2_with fail
      refine HT.mono ?_
      clear HT f0 f1
      rintro e w3 ⟨rfl, g3⟩
      have g4 := (s2.none_ g3).step
      have A3 := A2.kept g3
      have B3 := B2.kept g3
      clear s2 g3 A2 B2
      generalize w1.heap.size = A at *
      generalize w2.heap.size = B at *
      go_wp2_with fail
      go_loopw [7] (fun v wr => ∃ k : Nat, v = .int .i64 (k : Int) ∧ k ≤ 3 ∧ Blk wr A 37 #[.pointer none, .pointer none, .pointer none] ∧ Blk wr B 54 #[.pointer none, .pointer none, .pointer none] ∧ w.grownBy wr none) (fun v _ => (3 - intOf v).toNat)
      case atStart => exact ⟨0, rfl, by omega, A3, B3, g4⟩
      case round =>
        obtain ⟨k, rfl, hk, HA, HB, g⟩ := hrel
        clear A3 B3 g4
        by_cases h3 : k = 3
        · subst h3
          clear HA HB
          simp only [Int.cast_ofNat_Int]
          go_wp2_with fail
          go_ret
          exact ⟨rfl, g⟩
        · have hk3 : k < 3 := by omega
          have hk3' : (k : Int) < 3 := by omega
          have hk0 : (0 : Int) ≤ (k : Int) := by omega
          have kc : k = 0 ∨ k = 1 ∨ k = 2 := by omega
          have cA : wr.cell? ⟨A, k, none⟩ = some (.pointer none) := by rcases kc with rfl | rfl | rfl <;> exact HA.cell _
          have cB : wr.cell? ⟨B, k, none⟩ = some (.pointer none) := by rcases kc with rfl | rfl | rfl <;> exact HB.cell _
          have dB : ∀ n, (wr.drewN n).cell? ⟨B, k, none⟩ = some (.pointer none) := fun n => by rcases kc with rfl | rfl | rfl <;> exact (HB.kept (only_drewN (only_refl wr none) n)).cell _
          have hA := Lib.hid HA
          have hB := Lib.hid HB
          have hg := Lib.hid g
          clear HA HB g kc h3 hk
          go_wp2_with fail
          go_quiet (fail)
          go_wp2_with fail
          go_roundw
          case rel => exact ⟨k + 1, by go_num, by omega, hA.out.kept (only_drewN (only_refl _ none) _), hB.out.kept (only_drewN (only_refl _ none) _), only_drewN hg.out _⟩
          case measure => simp [intOf]; omega
set_option maxRecDepth 100000 in
set_option maxHeartbeats 4000000 in
theorem ssplits_any (s s1 s2 s3 : ByteArray) (a y z : Int) (ha0 : 0 ≤ a) (ha : a < 65536) (hz0 : -9223372036854775808 ≤ z) (hz : z ≤ 9223372036854775807) (w : World) (hE : ErrType w) :
    Calls Tryd.prog 3 #[.string s, .agg #[.string s1, .string s2, .string s3], .agg #[.int .u16 a, .int .u8 y, .int .i64 z]] w fun e w' => e = .returned (.bool true) ∧ w.grownBy w' none := by
  have g0 : w.grownBy ((w.alloc (.cells #[.string s1, .string s2, .string s3] 22)).alloc (.cells #[.int .u16 a, .int .u8 y, .int .i64 z] 25)) none := only_alloc (only_alloc (only_refl _ _) _) _
  have s0 := (St.start hE).none_ g0
  have B0 := (Blk.new w 22 #[.string s1, .string s2, .string s3]).alloc (.cells #[.int .u16 a, .int .u8 y, .int .i64 z] 25)
  have D0 := Blk.new' (w := w.alloc (.cells #[.string s1, .string s2, .string s3] 22)) (n := w.heap.size + 1) (by simp) 25 #[.int .u16 a, .int .u8 y, .int .i64 z]
  have c0 := B0.cell 0
  have c1 := B0.cell 1
  have c2 := B0.cell 2
  clear g0 B0
  go_enter Tryd.func3, Tryd.ntmps3
  go_wp2_with fail
  refine (texts_any s1 s2 s3 0 (by omega) (by omega) _).mono ?_
  rintro e w2 ⟨u1, u2, u3, rfl, h1, h2, h3, g2⟩
  have h1' : u1.size ≤ 300 := by omega
  have S2 := s0.none_ g2
  have D2 := D0.kept g2
  clear s0 D0 g2 c0 c1 c2 h1
  have HJ := fun W => rjoin_3 u1 u2 u3 (by omega) (by omega) (by omega) W
  obtain ⟨J, hJl, hJe⟩ : ∃ J : ByteArray, J.data.toList = joined u1.data.toList u2.data.toList u3.data.toList ∧ (⟨(joined u1.data.toList u2.data.toList u3.data.toList).toArray⟩ : ByteArray) = J := ⟨⟨(joined u1.data.toList u2.data.toList u3.data.toList).toArray⟩, rfl, rfl⟩
  rw [hJe] at HJ
  have hJs : J.size ≤ 1000 := by
    rw [← bytes_len, hJl]
    have l1 := sev_short (n := u1.data.toList.length) (by rw [bytes_len]; omega)
    have l2 := sev_short (n := u2.data.toList.length) (by rw [bytes_len]; omega)
    have l3 := sev_short (n := u3.data.toList.length) (by rw [bytes_len]; omega)
    have e1 := bytes_len u1
    have e2 := bytes_len u2
    have e3 := bytes_len u3
    simp only [joined, List.length_append, sec_len]
    have : hd5.length = 5 := rfl
    omega
  clear hJl hJe h2 h3 h1'
  go_wp2_with fail
  refine (HJ _).mono ?_
  clear HJ
  rintro e w3 ⟨rfl, g3⟩
  have S3 := S2.none_ g3
  have D3 := D2.kept g3
  clear S2 D2 g3
  obtain ⟨X, hX, hXs⟩ : ∃ X : ByteArray, (X = if 2000 < (s.size : Int) then s.extract 0 2000 else s) ∧ X.size ≤ 2000 := by
    refine ⟨_, rfl, ?_⟩
    split
    · rw [ByteArray.size_extract]; omega
    · omega
  have HA := fun W hW => alike_any X (by omega) W hW
  have HB := fun W hW => alike_any J (by omega) W hW
  have HT := fun W => turned_any J (by omega) a y z ha0 ha hz0 hz W
  have HC := fun (r : ByteArray) (hr : r.size ≤ J.size) W hW => alike_any r (by omega) W hW
  rcases Int.lt_or_le 2000 (s.size : Int) with d | d
  · rw [if_pos d] at hX
    subst hX
    have dd : (2000 : Int) ≤ (s.size : Int) := by omega
    clear hJs hXs
    go_wp2_with fail
    refine (HA _ S3.err).mono ?_
    clear HA
    rintro e w4 ⟨rfl, g4⟩
    have S4 := S3.none_ g4
    have D4 := D3.kept g4
    clear S3 D3 g4
    go_wp2_with fail
    refine (HB _ S4.err).mono ?_
    clear HB
    rintro e w5 ⟨rfl, g5⟩
    have S5 := S4.none_ g5
    have D5 := D4.kept g5
    clear S4 D4 g5
    have d0 := D5.cell 0
    have d1 := D5.cell 1
    have d2 := D5.cell 2
    go_wp2_with fail
    refine (HT _).mono ?_
    clear HT d0 d1 d2
    rintro e w6 ⟨r, rfl, hr, g6⟩
    have S6 := S5.none_ g6
    clear S5 D5 g6
    go_wp2_with fail
    refine (HC r hr _ S6.err).mono ?_
    clear HC hr
    rintro e w7 ⟨rfl, g7⟩
    have S7 := S6.none_ g7
    clear S6 g7
    go_wp2_with fail
    refine (sworks_any _ S7.err).mono ?_
    rintro e w8 ⟨rfl, g8⟩
    have S8 := (S7.none_ g8).step
    clear S7 g8
    go_wp2_with fail
    go_ret
    exact ⟨rfl, S8⟩
  · rw [if_neg (by omega)] at hX
    subst hX
    clear hJs hXs
    go_wp2_with fail
    refine (HA _ S3.err).mono ?_
    clear HA
    rintro e w4 ⟨rfl, g4⟩
    have S4 := S3.none_ g4
    have D4 := D3.kept g4
    clear S3 D3 g4
    go_wp2_with fail
    refine (HB _ S4.err).mono ?_
    clear HB
    rintro e w5 ⟨rfl, g5⟩
    have S5 := S4.none_ g5
    have D5 := D4.kept g5
    clear S4 D4 g5
    have d0 := D5.cell 0
    have d1 := D5.cell 1
    have d2 := D5.cell 2
    go_wp2_with fail
    refine (HT _).mono ?_
    clear HT d0 d1 d2
    rintro e w6 ⟨r, rfl, hr, g6⟩
    have S6 := S5.none_ g6
    clear S5 D5 g6
    go_wp2_with fail
    refine (HC r hr _ S6.err).mono ?_
    clear HC hr
    rintro e w7 ⟨rfl, g7⟩
    have S7 := S6.none_ g7
    clear S6 g7
    go_wp2_with fail
    refine (sworks_any _ S7.err).mono ?_
    rintro e w8 ⟨rfl, g8⟩
    have S8 := (S7.none_ g8).step
    clear S7 g8
    go_wp2_with fail
    go_ret
    exact ⟨rfl, S8⟩
end Go.Proofs.YtjjfofifooailaaDoor

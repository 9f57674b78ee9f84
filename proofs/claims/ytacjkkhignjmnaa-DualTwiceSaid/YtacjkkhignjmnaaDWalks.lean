/- DualWalks: the walk, from the contracts. -/
import Derived.Test.YtacjkkhignjmnaaDTables
import Derived.Test.YtacjkkhignjmnaaOOpB
import Derived.Test.YtacjkkhignjmnaaTwo
import Derived.StillTailTactics
namespace Go.Proofs.Ytacjkkhignjmnaa
open Go.RowKit Go.Shelf

def offS (n : Nat) (s : Bool) : Int := if s then (n : Int) else 0
/-- Two types of a dual table, one the other's mate. -/
def PQ (n : Nat) (p q : Int) : Prop := ∃ (t : Int) (s : Bool), 0 ≤ t ∧ t < n ∧ p = t + offS n s ∧ q = t + offS n (!s)
theorem pq_of {n : Nat} {p : Int} (h : 1 ≤ n) (h0 : 0 ≤ p) (h1 : p < 2 * (n : Int)) : PQ n p (mateA n p) := by
  by_cases hp : p < n
  · exact ⟨p, false, h0, hp, by simp [offS], by rw [mate_low (by omega) h0 hp]; simp [offS]⟩
  · refine ⟨p - n, true, by omega, by omega, by simp [offS], ?_⟩
    rw [mate_high (by omega) (by omega) h1]; simp [offS]
/-- What both come to, and what stands there. -/
theorem pq_step {xs : List Nd} (hk : OKT xs) {p q o : Int} (h : PQ xs.length p q) (o0 : 0 ≤ o) (o1 : o ≤ 100000000) :
    matesB (twoL xs) (p, o) (q, o) = true ∧ matesB (twoL xs) (q, o) (p, o) = true ∧ matesB (twoL xs) (p, o) (p, o) = false ∧
    ∃ (m : Nat) (y : Nd) (s : Bool) (i j : Nat) (d : Int), xs[m]? = some y ∧ 0 ≤ d ∧ d ≤ 64000 ∧ (i : Int) = m + offS xs.length s ∧ (j : Int) = m + offS xs.length (!s) ∧ m < xs.length ∧ resolveL (twoL xs) (p, o) = ((i : Int), d + o) ∧ resolveL (twoL xs) (q, o) = ((j : Int), d + o) ∧
      (twoL xs)[i]? = some (nodeS xs.length s y) ∧ (twoL xs)[j]? = some (nodeS xs.length (!s) y) := by
  obtain ⟨t, s, t0, t1, rfl, rfl⟩ := h
  obtain ⟨m, y, d, hy, _, hm, d0, d1, hr⟩ := dual_step hk t0 t1 (by omega : -1000000000 ≤ o) (by omega : o ≤ 1000000000)
  have e1 := mates_s hk t0 t1 (by omega : -1000000000 ≤ o) (by omega : o ≤ 1000000000) s (!s)
  have e2 := mates_s hk t0 t1 (by omega : -1000000000 ≤ o) (by omega : o ≤ 1000000000) (!s) s
  have e3 := mates_s hk t0 t1 (by omega : -1000000000 ≤ o) (by omega : o ≤ 1000000000) s s
  have at_ : ∀ r : Bool, ∃ i : Nat, (i : Int) = m + offS xs.length r ∧ (twoL xs)[i]? = some (nodeS xs.length r y) := fun r => by
    cases r
    · exact ⟨m, by simp [offS], two_at hy⟩
    · exact ⟨xs.length + m, by simp [offS]; omega, two_up hy⟩
  obtain ⟨i, hi, hiy⟩ := at_ s
  obtain ⟨j, hj, hjy⟩ := at_ (!s)
  refine ⟨?_, ?_, ?_, m, y, s, i, j, d, hy, d0, d1, hi, hj, hm, ?_, ?_, hiy, hjy⟩
  · rw [show offS xs.length s = (if s then (xs.length : Int) else 0) from rfl, show offS xs.length (!s) = (if (!s) then (xs.length : Int) else 0) from rfl, e1]; cases s <;> rfl
  · rw [show offS xs.length s = (if s then (xs.length : Int) else 0) from rfl, show offS xs.length (!s) = (if (!s) then (xs.length : Int) else 0) from rfl, e2]; cases s <;> rfl
  · rw [show offS xs.length s = (if s then (xs.length : Int) else 0) from rfl, e3]; cases s <;> rfl
  · rw [hi]; exact hr s
  · rw [hj]; exact hr (!s)
theorem pq_next {xs : List Nd} (hk : OKT xs) {m : Nat} {y : Nd} {e : Ed} (s : Bool) (hy : xs[m]? = some y) (he : e ∈ y.next) : PQ xs.length (upS xs.length s e).1 (upS xs.length (!s) e).1 ∧ 0 ≤ e.2 ∧ e.2 ≤ 1000 := by
  obtain ⟨a0, a1, a2, a3⟩ := hk.edge hy (List.mem_append_left _ he)
  exact ⟨⟨e.1, s, a0, a1, upS_1 _ _ _, upS_1 _ _ _⟩, a2, a3⟩
/-- What stands in the walk: both types in boxes. -/
structure WB (w0 : World) (B1 B2 : Nat) (p q o : Int) (W : World) : Prop where
  step : w0.grownBy W none
  b1 : Blk W B1 40 (edCells (p, o))
  b2 : Blk W B2 40 (edCells (q, o))
  n1 : w0.heap.size ≤ B1
  n2 : w0.heap.size ≤ B2
  ne : B1 ≠ B2
theorem WB.none_ {w0 W W' : World} {B1 B2 : Nat} {p q o : Int} (h : WB w0 B1 B2 p q o W) (hg : W.grownBy W' none) : WB w0 B1 B2 p q o W' := ⟨only_trans h.step hg, h.b1.kept hg, h.b2.kept hg, h.n1, h.n2, h.ne⟩
/-- Two boxes that were just made, in whatever order. -/
def TwoB (W0 : World) (t : TypeId) (cs ds : Array Value) (x y : Value) (W : World) : Prop := ∃ Bx By, x = .pointer (some ⟨Bx, 0, none⟩) ∧ y = .pointer (some ⟨By, 0, none⟩) ∧ Bx ≠ By ∧ Blk W Bx t cs ∧ Blk W By t ds ∧ W0.grownBy W none ∧ W0.heap.size ≤ Bx ∧ W0.heap.size ≤ By
theorem Edges.slice_ {W : World} {v : Value} {es : List Ed} (h : Edges W v es) : ∃ A c, v = .slice A es.length c := by
  obtain ⟨a, b, h, _⟩ := h
  exact ⟨a, b, h⟩
theorem edges_lt {W : World} {b off n c r : Nat} {es : List Ed} {e : Ed} (h : Edges W (.slice (some ⟨b, off, none⟩) n c) es) (he : es[r]? = some e) : b < W.heap.size := by
  obtain ⟨A, c', hA, _, hc⟩ := h
  obtain ⟨b2, o2, hb, hcc⟩ := hc (by intro e0; rw [e0] at he; simp at he)
  subst hb
  simp only [Value.slice.injEq, Option.some.injEq, Addr.mk.injEq, and_true] at hA
  have := cell_lt (hcc r e he).1
  rw [hA.1.1]; exact this
/-- .. between the two stores. -/
structure WM (w0 : World) (B1 B2 : Nat) (p2 o2 q o : Int) (W : World) : Prop where
  step : w0.grownBy W none
  b1 : Blk W B1 40 (edCells (p2, o2))
  b2 : Blk W B2 40 (edCells (q, o))
  n1 : w0.heap.size ≤ B1
  n2 : w0.heap.size ≤ B2
  ne : B1 ≠ B2
theorem WB.half {w0 W : World} {B1 B2 : Nat} {p q o p2 o2 : Int} (h : WB w0 B1 B2 p q o W) : WM w0 B1 B2 p2 o2 q o (((W.setCell ⟨B1, 0, none⟩ (.int .i64 p2)).setCell ⟨B1, 1, none⟩ (.int .i64 o2)).drew) :=
  ⟨only_drew (only_setNew (only_setNew h.step (p := ⟨B1, 0, none⟩) h.n1 _) (p := ⟨B1, 1, none⟩) h.n1 _), ((h.b1.set_ 0 (.int .i64 p2)).set_ 1 (.int .i64 o2)).drew, ((h.b2.far (p := ⟨B1, 0, none⟩) h.ne.symm _).far (p := ⟨B1, 1, none⟩) h.ne.symm _).drew, h.n1, h.n2, h.ne⟩
theorem WM.fin {w0 W : World} {B1 B2 : Nat} {p2 o2 q o q2 : Int} (h : WM w0 B1 B2 p2 o2 q o W) : WB w0 B1 B2 p2 q2 o2 ((W.setCell ⟨B2, 0, none⟩ (.int .i64 q2)).setCell ⟨B2, 1, none⟩ (.int .i64 o2)) :=
  ⟨only_setNew (only_setNew h.step (p := ⟨B2, 0, none⟩) h.n2 _) (p := ⟨B2, 1, none⟩) h.n2 _, (h.b1.far (p := ⟨B2, 0, none⟩) h.ne _).far (p := ⟨B2, 1, none⟩) h.ne _, (h.b2.set_ 0 (.int .i64 q2)).set_ 1 (.int .i64 o2), h.n1, h.n2, h.ne⟩
theorem mates_is (hS : MatesC) {xs : List Nd} {v : Value} {a b : Ed} {r : Bool} {w : World} (hT : Tbl w v xs) (hl : xs.length ≤ 1000) (h : matesB xs a b = r) : Calls Try.prog 15 #[v, edV a, edV b] w fun e w' => e = .returned (.bool r) ∧ w.grownBy w' none := by
  rw [← h]; exact hS xs v a b w hT hl

theorem node_two {n : Nat} (y : Nd) (h : 0 ≤ y.kind ∧ y.kind ≤ 5) (s : Bool) : ∃ K, 0 ≤ K ∧ K ≤ 5 ∧ nodeS n s y = ⟨K, y.prio, y.chan, y.pay, y.next.map (upS n s)⟩ ∧ nodeS n (!s) y = ⟨dualK K, y.prio, y.chan, y.pay, y.next.map (upS n (!s))⟩ := by
  have hd : 0 ≤ dualK y.kind ∧ dualK y.kind ≤ 5 := by unfold dualK; repeat' split
                                                      all_goals omega
  have e0 : nodeS n false y = ⟨y.kind, y.prio, y.chan, y.pay, y.next.map (upS n false)⟩ := by
    show y = _
    rw [show y.next.map (upS n false) = y.next from by show y.next.map (fun e => e) = _; simp]
  have e1 : nodeS n true y = ⟨dualK y.kind, y.prio, y.chan, y.pay, y.next.map (upS n true)⟩ := rfl
  cases s
  · exact ⟨y.kind, h.1, h.2, e0, e1⟩
  · exact ⟨dualK y.kind, hd.1, hd.2, e1, by rw [dualK_twice]; exact e0⟩

set_option maxRecDepth 100000 in
set_option maxHeartbeats 4000000 in
theorem dwalks_of (hC : TabC) (hM : MateC) (hS : MatesC) (xs : List Nd) (A : Option Addr) (c : Nat) (at_ : Int) (ha0 : 0 ≤ at_) (ha1 : at_ ≤ 255) (bs : List Int) (A2 : Option Addr) (c2 : Nat) (w : World) (hT : Tbl w (.slice A xs.length c) xs) (hc : xs.length ≤ c) (hB : BytesA w (.slice A2 bs.length c2) bs) :
    Calls Try.prog 5 #[.slice A xs.length c, .int .u8 at_, .slice A2 bs.length c2] w fun e w' => e = .returned (.bool true) ∧ w.grownBy w' none := by
  have HC := Lib.hid hC
  have HM := Lib.hid hM
  have HS := Lib.hid hS
  have HB := Lib.hid hB
  have HA : Hid (0 ≤ at_ ∧ at_ ≤ 255) := ⟨ha0, ha1⟩
  obtain ⟨ys, hys⟩ : ∃ ys, xs.take 70 = ys := ⟨_, rfl⟩
  have hyl : ys.length = min 70 xs.length := by rw [← hys]; exact List.length_take
  have HT : Hid (Tbl w (.slice A ys.length c) ys) := by
    have := hT.take (m := ys.length) (by omega)
    rwa [hyl, ← List.take_eq_take_min, hys, ← hyl] at this
  have h7 : ys.length ≤ 70 := by omega
  have HL : Hid (ys.length ≤ 70) := h7
  clear hT hys hC hM hS hB
  go_enter Try.func5, Try.ntmps5
  go_upto_region 3 with (go_at_call 12; go_must (refine (dworks_of HC.out HM.out HS.out _).mono ?_; rintro e W0 ⟨rfl, hg0⟩; have HG0 := Lib.hid hg0; clear hg0))
  go_cut [0] from 19 to 23 (fun s wx => s = .slice A ys.length c ∧ W0 = wx)
  case first =>
    by_cases h70 : xs.length ≤ 70
    · have h70' : (xs.length : Int) ≤ 70 := by omega
      have HQ : Hid (ys.length = xs.length) := show _ = _ by omega
      clear hyl
      go_wp2_with fail
      go_meet
      exact ⟨by rw [HQ.out], rfl⟩
    · have h70' : (70 : Int) < (xs.length : Int) := by omega
      have hc7 : (70 : Int) ≤ (c : Int) := by omega
      have HQ : Hid (ys.length = 70) := show _ = _ by omega
      clear hyl
      go_wp2_with fail
      go_meet
      exact ⟨by rw [HQ.out], rfl⟩
  case rest =>
    obtain ⟨rfl, rfl⟩ := hcut
    clear hyl hc
    by_cases hok : (checkL ys).2 = 0
    · have HTL := Lib.hid (tableL_ok hok)
      have HK := Lib.hid (okt_of hok)
      have HLL : Hid ((twoL ys).length = 2 * ys.length) := Lib.hid (twoL_len ys)
      have hn1 : 1 ≤ ys.length := HK.out.pos
      have hn1I : (1 : Int) ≤ (ys.length : Int) := by omega
      have hn2I : (ys.length : Int) ≤ 70 := by omega
      clear hok
      obtain ⟨L, hL⟩ : ∃ L, twoL ys = L := ⟨_, rfl⟩
      have HLT : Hid (tableL ys = L) := Lib.hid (HTL.out.trans hL)
      rw [hL] at HLL
      have HLE := Lib.hid hL
      clear hL HTL
      have hLI : (L.length : Int) = 2 * (ys.length : Int) := by have := HLL.out; omega
      obtain ⟨n2, hn2⟩ : ∃ n2 : Nat, n2 = L.length := ⟨_, rfl⟩
      have hL0 : ((L.length : Int) == 0) = false := beq_eq_false_iff_ne.2 (by omega)
      have HLI := Lib.hid hLI
      clear hLI hn2
      go_upto_region 5 with (go_at_call 7; go_must (refine (HC.out ys _ _ (HT.out.keep (.grown HG0.out)) (by have := HL.out; omega)).mono ?_; rw [HLT.out]; intro e W1 hmt; obtain ⟨A1, c1, rfl, ht1, hg1⟩ := madeT_tbl hmt; have HG1 := Lib.hid (only_trans HG0.out hg1); have HT1 := Lib.hid ht1; clear hmt ht1 hg1))
      go_cut [36] from 24 to 36 (fun cv wx => cv = .bool false ∧ W1 = wx)
      case first =>
        have hLI := HLI.out
        have hLD : ((L.length : Int) != 2 * (ys.length : Int)) = false := by rw [hLI]; simp
        clear hLI
        go_wp2_with fail
        go_meet
        exact ⟨rfl, rfl⟩
      case rest =>
        obtain ⟨rfl, rfl⟩ := hcut
        clear hL0
        have hp0 : 0 ≤ at_ % (2 * (ys.length : Int)) := Int.emod_nonneg _ (by omega)
        have hp1 : at_ % (2 * (ys.length : Int)) < 2 * (ys.length : Int) := Int.emod_lt_of_pos _ (by omega)
        have HPQ := Lib.hid (pq_of (n := ys.length) (by omega) hp0 hp1)
        go_upto_region 9 with fail
        generalize at_ % (2 * (ys.length : Int)) = p0 at *
        go_upto_region 10 with (go_at_call 10; go_must (refine (HM.out _ _ _ (by omega) (by omega) (by omega) (by omega)).mono ?_; rintro e W2 ⟨rfl, hg2⟩; have HG2 := Lib.hid hg2; clear hg2))
        have hwb : WB W1 W1.heap.size W2.heap.size p0 (mateA ys.length p0) at_ (W2.alloc (.cells #[.int .i64 (mateA ys.length p0), .int .i64 at_] 40)) :=
          ⟨only_alloc (only_trans (only_alloc (only_refl _ _) _) HG2.out) _, ((Blk.new W1 _ _).kept HG2.out).alloc _, Blk.new _ _ _, Nat.le_refl _, (by have := HG2.out.size; simp at this; omega), (by have := HG2.out.size; simp at this; omega)⟩
        have HWB := Lib.hid hwb
        clear hwb HG2
        generalize mateA ys.length p0 = q0 at *
        generalize hB1 : W1.heap.size = B1 at *
        generalize (W2.alloc (.cells #[.int .i64 q0, .int .i64 at_] 40)) = W3 at *
        generalize W2.heap.size = B2 at *
        go_wp2_with fail
        go_loopw [11] (fun i W => ∃ (k : Nat) (p q o : Int), k ≤ bs.length ∧ k ≤ 40 ∧ i = .int .i64 (k : Int) ∧ PQ ys.length p q ∧ 0 ≤ o ∧ o ≤ 255 + (k : Int) * 65000 ∧ WB W1 B1 B2 p q o W) (fun i _ => 50 - (intOf i).toNat)
        case atStart => exact ⟨0, p0, q0, at_, Nat.zero_le _, by omega, rfl, HPQ.out, HA.out.1, by have := HA.out.2; omega, HWB.out⟩
        case round =>
          clear HPQ HWB hp0 hp1 ha0 ha1
          obtain ⟨k, p, q, o, hk, hk40, rfl, hpq, ho0, ho1, s⟩ := hrel
          have HW := Lib.hid s
          by_cases hlt : k < bs.length ∧ k < 40
          · have hk0 : (0 : Int) ≤ (k : Int) := by omega
            have hk1 : (k : Int) < (bs.length : Int) := by omega
            have hk2 : (k : Int) < 40 := by omega
            obtain ⟨hm1, hm2, hm3, m, y, sd, i, j, d, hy, d0, d1, hi, hj, hml, hr1, hr2, hzi, hzj⟩ := pq_step HK.out hpq ho0 (by omega)
            rw [HLE.out] at hm1 hm2 hm3 hr1 hr2 hzi hzj
            have HM1 := Lib.hid hm1
            have HM2 := Lib.hid hm2
            have HM3 := Lib.hid hm3
            have HY := Lib.hid hy
            have HI := Lib.hid hi
            have HJ := Lib.hid hj
            have HR1 := Lib.hid hr1
            have HR2 := Lib.hid hr2
            have HZI := Lib.hid hzi
            have HZJ := Lib.hid hzj
            have HO : Hid (0 ≤ o ∧ o ≤ 255 + (k : Int) * 65000 ∧ 0 ≤ d ∧ d ≤ 64000) := Lib.hid ⟨ho0, ho1, d0, d1⟩
            have hLen : Hid (L.length ≤ 1000) := Lib.hid (by have := HLL.out; omega)
            clear hm1 hm2 hm3 hy hi hj hml hr1 hr2 hzi hzj hlt hpq
            have a0 := s.b1.cell 0
            have a1 := s.b1.cell 1
            have b0 := s.b2.cell 0
            have b1 := s.b2.cell 1
            go_upto_region 15 with (first
              | (go_at_call 15; ((with_reducible refine (mates_is HS.out (a := (p, o)) (b := (q, o)) (HT1.out.keep (.grown s.step)) hLen.out HM1.out).mono ?_); rintro e W8 ⟨rfl, hs⟩); replace s := s.none_ hs; have a0 := s.b1.cell 0; have a1 := s.b1.cell 1; have b0 := s.b2.cell 0; have b1 := s.b2.cell 1; clear hs)
              | (go_at_call 15; ((with_reducible refine (mates_is HS.out (a := (q, o)) (b := (p, o)) (HT1.out.keep (.grown s.step)) hLen.out HM2.out).mono ?_); rintro e W8 ⟨rfl, hs⟩); replace s := s.none_ hs; have a0 := s.b1.cell 0; have a1 := s.b1.cell 1; have b0 := s.b2.cell 0; have b1 := s.b2.cell 1; clear hs)
              | (go_at_call 15; ((with_reducible refine (mates_is HS.out (a := (p, o)) (b := (p, o)) (HT1.out.keep (.grown s.step)) hLen.out HM3.out).mono ?_); rintro e W8 ⟨rfl, hs⟩); replace s := s.none_ hs; have a0 := s.b1.cell 0; have a1 := s.b1.cell 1; have b0 := s.b2.cell 0; have b1 := s.b2.cell 1; clear hs))
            go_cut [12, 13] from 57 to 207 (fun x y wx => TwoB W8 40 (edCells ((i : Int), d + o)) (edCells ((j : Int), d + o)) x y wx)
            case first =>
              have hRA : ∀ (W : World) (e g : Ed), W8.grownBy W none → resolveL L e = g → Calls Try.prog 16 #[.slice A1 L.length c1, edV e] W fun en w'' => en = .returned (edV g) ∧ W.grownBy w'' none := fun W e g hg he => by
                have h := resolve_any L (.slice A1 L.length c1) e W (HT1.out.keep (.grown (only_trans s.step hg))) (by have := hLen.out; omega)
                rw [he] at h
                exact h
              refine region_two (by kernel_rfl) (by kernel_rfl) [85, 86, 87, 88, 89, 90, 12, 13] (by kernel_rfl) (by kernel_rfl) (by decide)
                [(7, .slice A1 L.length c1), (9, .pointer (some ⟨B1, 0, none⟩)), (10, .pointer (some ⟨B2, 0, none⟩)), (85, .slice A1 L.length c1), (86, edV (p, o)), (87, edV ((i : Int), d + o)), (88, .slice A1 L.length c1), (89, edV (q, o)), (90, edV ((j : Int), d + o))]
                ⟨12, 40, edCells (0, 0), edCells ((i : Int), d + o), 87, 6, 8⟩ ⟨13, 40, edCells (0, 0), edCells ((j : Int), d + o), 90, 7, 9⟩
                ?h0 (boxed_type _ _ _ _ _) (boxed_type _ _ _ _ _) rfl rfl rfl rfl (by dsimp only; decide) (by kernel_rfl) (by kernel_rfl) (by kernel_rfl) (by kernel_rfl) ?hops ?hQ
              case h0 =>
                intro p hp hn
                simp only [List.mem_cons, List.not_mem_nil, or_false] at hp
                rcases hp with rfl | rfl | rfl | rfl | rfl | rfl | rfl | rfl | rfl
                all_goals first | rfl | exact absurd (by dsimp only; decide) hn
              case hops =>
                exact ⟨.val 85 _ rfl rfl rfl (ov_move rfl rfl), .val 86 _ rfl rfl rfl (ov_load_type rfl rfl s.b1), .val 87 _ rfl rfl rfl (ov_call2 rfl rfl rfl (fun W => by kernel_rfl) (fun W hg => hRA W _ _ hg HR1.out)),
                  .val 88 _ rfl rfl rfl (ov_move rfl rfl), .val 89 _ rfl rfl rfl (ov_load_type rfl rfl s.b2), .val 90 _ rfl rfl rfl (ov_call2 rfl rfl rfl (fun W => by kernel_rfl) (fun W hg => hRA W _ _ hg HR2.out)),
                  .al1 rfl rfl rfl, .al2 rfl rfl rfl, .st1 rfl rfl rfl, .st2 rfl rfl rfl, trivial⟩
              case hQ =>
                intro vs W Bx By hg e1 e2 hne h1 h2 k1 k2
                have HZ : Hid (TwoB W8 40 (edCells ((i : Int), d + o)) (edCells ((j : Int), d + o)) (vs 12) (vs 13) W) := Lib.hid ⟨Bx, By, e1, e2, hne, k1, k2, hg, h1, h2⟩
                clear hg e1 e2 hne h1 h2 k1 k2 hRA
                simp only [List.foldl_cons, List.foldl_nil, List.setIfInBounds_toArray, List.set_cons_zero, List.set_cons_succ]
                go_wp2_with fail
                go_meet
                exact HZ.out
            case rest =>
              obtain ⟨Bx, By, rfl, rfl, hxy, kx, ky, hg, hBx, hBy⟩ := hcut
              have HS9 := Lib.hid (s.none_ hg)
              have HKX := Lib.hid kx
              have HKY := Lib.hid ky
              have x0 := kx.cell 0
              have x1 := kx.cell 1
              have y0 := ky.cell 0
              have y1 := ky.cell 1
              have hin0 : (0 : Int) ≤ (i : Int) := by omega
              have hjn0 : (0 : Int) ≤ (j : Int) := by omega
              have hB1x : Bx ≠ B1 := by have := s.b1.lt; omega
              have hB1y : By ≠ B1 := by have := s.b1.lt; omega
              have hB2y : By ≠ B2 := by have := s.b2.lt; omega
              clear hg hxy hBx hBy a0 a1 b0 b1 s kx ky
              go_upto_region 18 with fail
              obtain ⟨A1', c1', hA, hcl⟩ := HT1.out
              have hil : i < L.length := (List.getElem?_eq_some_iff.1 HZI.out).1
              have hjl : j < L.length := (List.getElem?_eq_some_iff.1 HZJ.out).1
              obtain ⟨bt, ot, hAb, hcl2⟩ := hcl (by intro e0; rw [e0] at hil; simp at hil)
              obtain ⟨rfl, rfl⟩ : A1 = A1' ∧ c1 = c1' := by simpa using hA
              subst hAb
              obtain ⟨K, hK0, hK5, hXe, hYe⟩ := node_two (n := ys.length) y (HK.out.end_ HY.out).1 sd
              have hzi := HZI.out
              have hzj := HZJ.out
              rw [hXe] at hzi
              rw [hYe] at hzj
              obtain ⟨vi, hEi, p0', p1', p2', p3', p4', p5'⟩ := hcl2 i _ hzi
              obtain ⟨vj, hEj, q0', q1', q2', q3', q4', q5'⟩ := hcl2 j _ hzj
              dsimp only at hEi hEj p0' p1' p2' p3' p4' p5' q0' q1' q2' q3' q4' q5'
              have hwc := HS9.out.step
              have HEI := Lib.hid (hEi.keep (.grown hwc))
              have HEJ := Lib.hid (hEj.keep (.grown hwc))
              have HEJ0 := Lib.hid hEj
              obtain ⟨Ai, ci, rfl⟩ := hEi.slice_
              obtain ⟨Aj, cj, rfl⟩ := hEj.slice_
              clear hEi hEj
              have p0 := Keeps.grown hwc _ _ p0'
              have p1 := Keeps.grown hwc _ _ p1'
              have p2 := Keeps.grown hwc _ _ p2'
              have p3 := Keeps.grown hwc _ _ p3'
              have p4 := Keeps.grown hwc _ _ p4'
              have p5 := Keeps.grown hwc _ _ p5'
              have q0 := Keeps.grown hwc _ _ q0'
              have q1 := Keeps.grown hwc _ _ q1'
              have q2 := Keeps.grown hwc _ _ q2'
              have q3 := Keeps.grown hwc _ _ q3'
              have q4 := Keeps.grown hwc _ _ q4'
              have q5 := Keeps.grown hwc _ _ q5'
              clear p0' p1' p2' p3' p4' p5' q0' q1' q2' q3' q4' q5' hcl hcl2 hA hzi hzj hwc
              rw [List.length_map] at p5 q5
              have HXE := Lib.hid hXe
              have HYE := Lib.hid hYe
              have hnl : (y.next.length : Int) ≤ 8 := by have := (HK.out.end_ HY.out).2.2.1; omega
              have HPY : Hid (y.chan = true → y.pay.1 < (ys.length : Int)) := Lib.hid fun h => (HK.out.edge HY.out (e := y.pay) (by unfold allE; rw [h]; simp)).2.1
              clear hXe hYe
              generalize hnx : y.next.map (upS ys.length sd) = nx at *
              generalize hny : y.next.map (upS ys.length !sd) = ny at *
              have HNX := Lib.hid hnx
              have HNY := Lib.hid hny
              clear hnx hny
              go_cut [14, 15] from 57 to 207 (fun u v wx => TwoB wc 29 (ndCells ⟨K, y.prio, y.chan, y.pay, nx⟩ (.slice Ai y.next.length ci)) (ndCells ⟨dualK K, y.prio, y.chan, y.pay, ny⟩ (.slice Aj y.next.length cj)) u v wx)
              case first =>
                refine region_two (by kernel_rfl) (by kernel_rfl) [106, 107, 108, 109, 110, 111, 112, 113, 114, 115, 14, 15] (by kernel_rfl) (by kernel_rfl) (by decide)
                  [(7, .slice (some ⟨bt, ot, none⟩) L.length c1), (12, .pointer (some ⟨Bx, 0, none⟩)), (13, .pointer (some ⟨By, 0, none⟩)), (106, .slice (some ⟨bt, ot, none⟩) L.length c1), (107, .pointer (some ⟨Bx, 0, none⟩)), (108, .int .i64 (i : Int)), (109, .pointer (some ⟨bt, ot + i * 6, none⟩)), (110, ndV ⟨K, y.prio, y.chan, y.pay, nx⟩ (.slice Ai y.next.length ci)),
                   (111, .slice (some ⟨bt, ot, none⟩) L.length c1), (112, .pointer (some ⟨By, 0, none⟩)), (113, .int .i64 (j : Int)), (114, .pointer (some ⟨bt, ot + j * 6, none⟩)), (115, ndV ⟨dualK K, y.prio, y.chan, y.pay, ny⟩ (.slice Aj y.next.length cj))]
                  ⟨14, 29, ndCells ⟨0, 0, false, (0, 0), []⟩ (.slice none 0 0), ndCells ⟨K, y.prio, y.chan, y.pay, nx⟩ (.slice Ai y.next.length ci), 110, 10, 12⟩ ⟨15, 29, ndCells ⟨0, 0, false, (0, 0), []⟩ (.slice none 0 0), ndCells ⟨dualK K, y.prio, y.chan, y.pay, ny⟩ (.slice Aj y.next.length cj), 115, 11, 13⟩
                  ?h0 (boxed_node _ _ _ _ _ _ _ _) (boxed_node _ _ _ _ _ _ _ _) rfl rfl rfl rfl (by dsimp only; decide) (by kernel_rfl) (by kernel_rfl) (by kernel_rfl) (by kernel_rfl) ?hops ?hQ
                case h0 =>
                  intro p hp hn
                  simp only [List.mem_cons, List.not_mem_nil, or_false] at hp
                  rcases hp with rfl | rfl | rfl | rfl | rfl | rfl | rfl | rfl | rfl | rfl | rfl | rfl | rfl
                  all_goals first | rfl | exact absurd (by dsimp only; decide) hn
                case hops =>
                  exact ⟨.val 106 _ rfl rfl rfl (ov_move rfl rfl), .val 107 _ rfl rfl rfl (ov_field0 rfl rfl), .val 108 _ rfl rfl rfl (ov_load_int rfl rfl x0), .val 109 _ rfl rfl rfl (ov_index rfl rfl rfl hil), .val 110 _ rfl rfl rfl (ov_load_node rfl rfl p0 p1 p2 p3 p4 p5),
                    .val 111 _ rfl rfl rfl (ov_move rfl rfl), .val 112 _ rfl rfl rfl (ov_field0 rfl rfl), .val 113 _ rfl rfl rfl (ov_load_int rfl rfl y0), .val 114 _ rfl rfl rfl (ov_index rfl rfl rfl hjl), .val 115 _ rfl rfl rfl (ov_load_node rfl rfl q0 q1 q2 q3 q4 q5),
                    .al1 rfl rfl rfl, .al2 rfl rfl rfl, .st1 rfl rfl rfl, .st2 rfl rfl rfl, trivial⟩
                case hQ =>
                  intro vs W Bm Bn hg e1 e2 hne h1 h2 k1 k2
                  have HZ : Hid (TwoB wc 29 (ndCells ⟨K, y.prio, y.chan, y.pay, nx⟩ (.slice Ai y.next.length ci)) (ndCells ⟨dualK K, y.prio, y.chan, y.pay, ny⟩ (.slice Aj y.next.length cj)) (vs 14) (vs 15) W) := Lib.hid ⟨Bm, Bn, e1, e2, hne, k1, k2, hg, h1, h2⟩
                  clear hg e1 e2 hne h1 h2 k1 k2
                  simp only [List.foldl_cons, List.foldl_nil, List.setIfInBounds_toArray, List.set_cons_zero, List.set_cons_succ]
                  go_wp2_with fail
                  go_meet
                  exact HZ.out
              case rest =>
                clear p0 p1 p2 p3 p4 p5 q0 q1 q2 q3 q4 q5
                obtain ⟨Bm, Bn, rfl, rfl, hmn, km, kn, hg, hBm, hBn⟩ := hcut
                have HSA := Lib.hid (HS9.out.none_ hg)
                have HXA := Lib.hid (HKX.out.kept hg)
                have HYA := Lib.hid (HKY.out.kept hg)
                have HEIA := Lib.hid (HEI.out.keep (.grown hg))
                have HEJA := Lib.hid (HEJ.out.keep (.grown hg))
                have HKM := Lib.hid km
                have HKN := Lib.hid kn
                have m0 := km.cell 0
                have m1 := km.cell 1
                have m2 := km.cell 2
                have m3 := km.cell 3
                have m4 := km.cell 4
                have m5 := km.cell 5
                have n0 := kn.cell 0
                have n1 := kn.cell 1
                have n2' := kn.cell 2
                have n3 := kn.cell 3
                have n4 := kn.cell 4
                have n5 := kn.cell 5
                have hB1m : Bm ≠ B1 := by have := HS9.out.b1.lt; omega
                have hB1n : Bn ≠ B1 := by have := HS9.out.b1.lt; omega
                have hB2n : Bn ≠ B2 := by have := HS9.out.b2.lt; omega
                clear hg hmn hBm hBn km kn x0 x1 y0 y1 HEI HEJ HKX HKY
                obtain ⟨yk, yp, yc, ⟨ya, yb⟩, yn⟩ := y
                dsimp only at *
                go_upto_region 19 with fail
                go_cut [162] from 57 to 207 (fun cv wx => cv = .bool false ∧ wc = wx)
                case first =>
                  cases yc
                  · go_wp2_with (go_at_call 17; go_must (refine (ropp_any K ⟨hK0, hK5⟩ _).mono ?_; rintro e W10 ⟨rfl, rfl⟩))
                    go_meet
                    exact ⟨rfl, rfl⟩
                  · have hpy : ya < (ys.length : Int) := HPY.out rfl
                    go_wp2_with (go_at_call 17; go_must (refine (ropp_any K ⟨hK0, hK5⟩ _).mono ?_; rintro e W10 ⟨rfl, rfl⟩))
                    go_meet
                    exact ⟨by rw [decide_eq_false (by omega)], rfl⟩
                case rest =>
                  obtain ⟨rfl, rfl⟩ := hcut
                  by_cases hnn : yn.length = 0
                  · have hnI : (yn.length : Int) = 0 := by omega
                    go_wp2_with fail
                    go_ret
                    exact ⟨rfl, only_trans HG1.out HSA.out.step⟩
                  · have hnI : ((yn.length : Int) == 0) = false := beq_eq_false_iff_ne.2 (by omega)
                    go_upto_region 23 with fail
                    go_cut [16] from 57 to 207 (fun cv wx => (∃ r : Nat, cv = .int .i64 (r : Int) ∧ r < yn.length) ∧ wc.grownBy wx none)
                    case first =>
                      have hkl : k < bs.length := by omega
                      obtain ⟨x, hx⟩ : ∃ x, bs[k]? = some x := ⟨_, List.getElem?_eq_getElem hkl⟩
                      obtain ⟨A3, c3, hA3, _, hbv, hbc⟩ := HB.out
                      obtain ⟨b3, o3, hA3b, hbc2⟩ := hbc (by intro e0; rw [e0] at hkl; simp at hkl)
                      obtain ⟨rfl, rfl⟩ : A2 = A3 ∧ c2 = c3 := by simpa using hA3
                      subst hA3b
                      have hx1 := hbv x (List.mem_of_getElem? hx)
                      have hxc := Keeps.grown (only_trans HG1.out HSA.out.step) _ _ (hbc2 k x hx)
                      have hx2 := hx1.1
                      have hx3 := hx1.2
                      have hnp : (1 : Int) ≤ (yn.length : Int) := by omega
                      have hr0 : 0 ≤ x.tmod (yn.length : Int) := Int.tmod_nonneg _ hx2
                      have hr1 : x.tmod (yn.length : Int) < (yn.length : Int) := Int.tmod_lt_of_pos _ (by omega)
                      have hw1 : IntKind.i64.wrap x = x := IntWalk.i64_in _ ⟨by omega, by omega⟩
                      have HR : Hid (0 ≤ x.tmod (yn.length : Int) ∧ x.tmod (yn.length : Int) < (yn.length : Int)) := Lib.hid ⟨hr0, hr1⟩
                      clear hA3 hbv hbc hbc2 hx hx1 hr0 hr1
                      go_quiet (fail)
                      all_goals go_wp2_with fail
                      all_goals go_meet
                      all_goals exact ⟨⟨(x % (yn.length : Int)).toNat, by rw [Int.toNat_of_nonneg (Int.emod_nonneg _ (by omega))], by have := Int.emod_lt_of_pos x (b := (yn.length : Int)) (by omega); omega⟩, only_drewN_D (only_refl _ _) _⟩
                    case rest =>
                      obtain ⟨⟨r, rfl, hrl⟩, hg⟩ := hcut
                      clear m0 m1 m2 m3 m4 m5 n0 n1 n2' n3 n4 n5
                      obtain ⟨e0, he0⟩ : ∃ e0, yn[r]? = some e0 := ⟨_, List.getElem?_eq_getElem hrl⟩
                      obtain ⟨hpq2, he1, he2⟩ := pq_next HK.out sd HY.out (List.mem_of_getElem? he0)
                      have hex : nx[r]? = some (upS ys.length sd e0) := by rw [← HNX.out, List.getElem?_map, he0]; rfl
                      have hey : ny[r]? = some (upS ys.length (!sd) e0) := by rw [← HNY.out, List.getElem?_map, he0]; rfl
                      have es1 := upS_2 ys.length sd e0
                      have es2 := upS_2 ys.length (!sd) e0
                      obtain ⟨⟨p2, es⟩, hp2⟩ : ∃ e, upS ys.length sd e0 = e := ⟨_, rfl⟩
                      obtain ⟨⟨q2, es'⟩, hq2⟩ : ∃ e, upS ys.length (!sd) e0 = e := ⟨_, rfl⟩
                      rw [hp2] at hex es1 hpq2
                      rw [hq2] at hey es2 hpq2
                      dsimp only at es1 es2 hpq2
                      obtain rfl : es = es' := es1.trans es2.symm
                      rw [← es1] at he1 he2
                      have HPQ2 := Lib.hid hpq2
                      clear hp2 hq2 es1 es2 hpq2 he0
                      obtain ⟨Ai', ci', hAi, _, hci⟩ := HEIA.out
                      obtain ⟨be, oe, hAib, hce⟩ := hci (by intro e; rw [e] at hex; simp at hex)
                      obtain ⟨rfl, rfl⟩ : Ai = Ai' ∧ ci = ci' := by simp only [Value.slice.injEq] at hAi; exact ⟨hAi.1, hAi.2.2⟩
                      subst hAib
                      obtain ⟨f0', f1'⟩ := hce r _ hex
                      obtain ⟨Aj', cj', hAj, _, hcj⟩ := HEJA.out
                      obtain ⟨bf, of_, hAjb, hcf⟩ := hcj (by intro e; rw [e] at hey; simp at hey)
                      obtain ⟨rfl, rfl⟩ : Aj = Aj' ∧ cj = cj' := by simp only [Value.slice.injEq] at hAj; exact ⟨hAj.1, hAj.2.2⟩
                      subst hAjb
                      obtain ⟨g0', g1'⟩ := hcf r _ hey
                      dsimp only at f0' f1' g0' g1'
                      have hbfl : bf < W1.heap.size := edges_lt HEJ0.out hey
                      have kk := Keeps.grown hg
                      have f0 := kk _ _ f0'
                      have f1 := kk _ _ f1'
                      have g0 := kk _ _ g0'
                      have g1 := kk _ _ g1'
                      have sw := HSA.out.none_ hg
                      have SW := Lib.hid sw
                      have HX5 := Lib.hid (HKM.out.kept hg)
                      have HY5 := Lib.hid (HKN.out.kept hg)
                      have HXO := Lib.hid (HXA.out.kept hg)
                      have HYO := Lib.hid (HYA.out.kept hg)
                      have m5 : wc.cell? ⟨Bm, 5, none⟩ = some (.slice (some ⟨be, oe, none⟩) yn.length ci) := HX5.out.cell 5
                      have x1 : wc.cell? ⟨Bx, 1, none⟩ = some (.int .i64 (d + o)) := HXO.out.cell 1
                      have c0 : wc.cell? ⟨B1, 0, none⟩ = some (.int .i64 p) := sw.b1.cell 0
                      have c1' : wc.cell? ⟨B1, 1, none⟩ = some (.int .i64 o) := sw.b1.cell 1
                      have z0 := sw.b1.frozen 0
                      have z1 := sw.b1.frozen 1
                      have hrI : (r : Int) < (yn.length : Int) := by omega
                      have hr0 : (0 : Int) ≤ (r : Int) := by omega
                      have hob := HO.out
                      have hw2 : IntKind.i64.wrap (d + o + es) = d + o + es := IntWalk.i64_in _ ⟨by omega, by omega⟩
                      clear hAi hci hce hAj hcj hcf f0' f1' g0' g1' kk sw hob hex hey
                      have y5 : wc.cell? ⟨Bn, 5, none⟩ = some (.slice (some ⟨bf, of_, none⟩) yn.length cj) := HY5.out.cell 5
                      have y1 : wc.cell? ⟨By, 1, none⟩ = some (.int .i64 (d + o)) := HYO.out.cell 1
                      have c2 : wc.cell? ⟨B2, 0, none⟩ = some (.int .i64 q) := SW.out.b2.cell 0
                      have c3 : wc.cell? ⟨B2, 1, none⟩ = some (.int .i64 o) := SW.out.b2.cell 1
                      have z2 := SW.out.b2.frozen 0
                      have z3 := SW.out.b2.frozen 1
                      have hB12 : B2 ≠ B1 := SW.out.ne.symm
                      have hB1f : bf ≠ B1 := by have := SW.out.n1; have := hbfl; omega
                      clear hbfl
                      go_upto_region 24 with fail
                      go_still_tail 16, (by kernel_rfl)
                      change wpList _ _ _ _ _ wc.drew
                      go_upto_region 25 with fail
                      obtain ⟨W5, hW5⟩ : ∃ W5, ((wc.setCell ⟨B1, 0, none⟩ (.int .i64 p2)).setCell ⟨B1, 1, none⟩ (.int .i64 (d + o + es))).drew = W5 := ⟨_, rfl⟩
                      have hwm : WM W1 B1 B2 p2 (d + o + es) q o W5 := by rw [← hW5]; exact SW.out.half
                      have y5' : W5.cell? ⟨Bn, 5, none⟩ = some (.slice (some ⟨bf, of_, none⟩) yn.length cj) := by rw [← hW5]; exact ((HY5.out.far (p := ⟨B1, 0, none⟩) hB1n _).far (p := ⟨B1, 1, none⟩) hB1n _).drew.cell 5
                      have y1' : W5.cell? ⟨By, 1, none⟩ = some (.int .i64 (d + o)) := by rw [← hW5]; exact ((HYO.out.far (p := ⟨B1, 0, none⟩) hB1y _).far (p := ⟨B1, 1, none⟩) hB1y _).drew.cell 1
                      have cfar : ∀ (n : Nat) (u : Value), wc.cell? ⟨bf, n, none⟩ = some u → W5.cell? ⟨bf, n, none⟩ = some u := fun n u hu => by
                        rw [← hW5]
                        show ((wc.setCell _ _).setCell _ _).cell? _ = _
                        rw [World.cell?_setCell_other _ _ _ _ (by intro e; simp only [Addr.mk.injEq] at e; omega), World.cell?_setCell_other _ _ _ _ (by intro e; simp only [Addr.mk.injEq] at e; omega)]
                        exact hu
                      have g0' := cfar _ _ g0
                      have g1' := cfar _ _ g1
                      have c2' : W5.cell? ⟨B2, 0, none⟩ = some (.int .i64 q) := hwm.b2.cell 0
                      have c3' : W5.cell? ⟨B2, 1, none⟩ = some (.int .i64 o) := hwm.b2.cell 1
                      have z2' := hwm.b2.frozen 0
                      have z3' := hwm.b2.frozen 1
                      have HWM := Lib.hid hwm
                      rw [hW5]
                      clear hW5 cfar hwm y5 y1 g0 g1 c2 c3 z2 z3 f0 f1 m5 x1 c0 c1' z0 z1
                      go_still_tail 16, (by kernel_rfl)
                      change wpList _ _ _ _ _ W5.drew
                      go_wp2_with fail
                      have HWN := Lib.hid ((HWM.out.fin (q2 := q2)).none_ (only_drew (only_refl _ none)))
                      go_roundw
                      case rel => exact ⟨k + 1, p2, q2, d + o + es, by omega, by omega, by go_num, HPQ2.out, by have := HO.out; omega, by have := HO.out; omega, HWN.out⟩
                      case measure => simp [intOf]; omega
          · have HG3 := Lib.hid (only_trans HG1.out s.step)
            by_cases hkl : k < bs.length
            · have hk1 : (k : Int) < (bs.length : Int) := by omega
              have hk2 : (40 : Int) ≤ (k : Int) := by omega
              clear hlt hpq s HW
              go_wp2_with fail
              go_ret
              exact ⟨rfl, HG3.out⟩
            · have hk1 : (bs.length : Int) ≤ (k : Int) := by omega
              have hk2 : decide (k < bs.length) = false := decide_eq_false hkl
              clear hlt hpq s HW hkl
              go_wp2_with fail
              go_ret
              exact ⟨rfl, HG3.out⟩
    · have HTL := Lib.hid (tableL_not hok)
      clear hok
      go_wp2_with (go_at_call 7; go_must (refine (HC.out ys _ _ (HT.out.keep (.grown HG0.out)) (by have := HL.out; omega)).mono ?_; rw [HTL.out]; intro e W1 hmt; obtain ⟨A1, c1, rfl, ht1, hg1⟩ := madeT_tbl hmt; have HG1 := Lib.hid (only_trans HG0.out hg1); clear hmt ht1 hg1))
      go_ret
      exact ⟨rfl, HG1.out⟩
end Go.Proofs.Ytacjkkhignjmnaa

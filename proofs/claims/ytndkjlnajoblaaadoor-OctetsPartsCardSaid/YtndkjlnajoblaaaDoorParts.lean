/- OctetsParts: whatever the bytes and the sizes, the call returns true, and turns nothing that was there. -/
import Derived.Test.YtndkjlnajoblaaaDoorStep
import Derived.LoopTactic
import Derived.Deep.LoopGhost
import Derived.Deep.DeepCutAuto
namespace Go.Proofs.YtndkjlnajoblaaaDoor
open Go.RowKit

theorem ext_eq (s : ByteArray) (bs : List UInt8) (bg a n : Nat) (hbs : bs = (s.data.toList.drop bg).take bs.length) (hn : a + n ≤ bs.length) :
    (⟨((bs.drop a).take n).toArray⟩ : ByteArray) = s.extract (bg + a) (bg + a + n) := by
  apply ByteArray.ext
  rw [ByteArray.data_extract]
  apply Array.ext'
  rw [Array.toList_extract]
  show (bs.drop a).take n = _
  rw [hbs]
  generalize bs.length = l at *
  rw [List.drop_take, List.take_take, List.drop_drop]
  congr 1
  omega
theorem sub_eq (s : ByteArray) (bs : List UInt8) (bg a n : Nat) (hbs : bs = (s.data.toList.drop bg).take bs.length) (hn : a + n ≤ bs.length) :
    (bs.drop a).take n = (s.data.toList.drop (bg + a)).take n := by
  rw [hbs]
  generalize bs.length = l at *
  rw [List.drop_take, List.take_take, List.drop_drop]
  congr 1
  omega
theorem ext_bool {x y : ByteArray} (h : x = y) : (x.toList == y.toList) = true := by subst h; simp

/-- What holds at each round's head: the reader at hand, where it stands, and where it ends. -/
def PRel (s : ByteArray) (w0 : World) (vr va ve vi : Value) (wr : World) : Prop :=
  ∃ (g a bg k p e : Nat) (bs : List UInt8), vr = .pointer (some ⟨g, 0, none⟩) ∧ va = .int .i64 (p : Int) ∧ ve = .int .i64 (e : Int) ∧ vi = .int .i64 (k : Int) ∧
    St w0 wr [⟨g, bs, a, bg⟩] [] ∧ bs = (s.data.toList.drop bg).take bs.length ∧ bg + bs.length ≤ s.size ∧ k ≤ 10 ∧ bg + a = p ∧ bg + bs.length = e

theorem prel_start {s : ByteArray} {w0 wr : World} {g : Nat} (S : St w0 wr [⟨g, s.data.toList, 0, 0⟩] []) : PRel s w0 (.pointer (some ⟨g, 0, none⟩)) (.int .i64 0) (.int .i64 (s.size : Int)) (.int .i64 0) wr :=
  ⟨g, 0, 0, 0, 0, s.size, s.data.toList, rfl, rfl, rfl, rfl, S, by rw [List.drop_zero, List.take_length], by rw [bytes_len]; omega, by omega, rfl, by rw [bytes_len]; omega⟩

/-- The sizes, as the argument holds them. -/
def Sizes (w : World) (A : Option Addr) (n : Nat) : Prop := ∀ k, k < n → ∃ b off z : Nat, A = some ⟨b, off, none⟩ ∧ z ≤ 255 ∧ b < w.heap.size ∧ w.cell? ⟨b, off + k, none⟩ = some (.int .u8 (z : Int))

set_option maxRecDepth 100000 in
set_option maxHeartbeats 4000000 in
theorem parts_any (s : ByteArray) (A : Option Addr) (n c : Nat) (w : World) (hE : ErrType w) (hz : Sizes w A n) :
    Calls Tryd.prog 5 #[.string s, .slice A n c] w fun e w' => e = .returned (.bool true) ∧ w.grownBy w' none := by
  have HZ := Lib.hid hz
  clear hz
  go_enter Tryd.func5, Tryd.ntmps5
  go_upto_region 3 with (go_at_call 21; ((with_reducible refine (works_any _ hE).mono ?_); rintro e w1 ⟨rfl, hs1⟩))
  have s1 := (St.start hE).none_ hs1
  clear hs1
  go_cut [0] (fun s0 wx => ∃ s' : ByteArray, s0 = .string s' ∧ s'.size ≤ 1000 ∧ wx = w1)
  case first =>
    go_wp2_with fail
    all_goals go_meet
    · exact ⟨_, rfl, by rw [ByteArray.size_extract]; omega, rfl⟩
    · exact ⟨_, rfl, by omega, rfl⟩
  case rest =>
    obtain ⟨s', rfl, hs', rfl⟩ := hcut
    have hb : s'.size ≤ 4611686018427387904 := by omega
    go_wp2_with (go_at_call 7; ((with_reducible refine (newReader_any s' _ hb).mono ?_); rintro e w2 ⟨g, rfl, hf, hs, hr⟩))
    have s2 := s1.new hf hs hr
    clear hb hf hs hr s1
    go_loopw [5, 6, 7, 8] (fun vr va ve vi wr => PRel s' w vr va ve vi wr) (fun _ _ _ vi _ => 10 - (intOf vi).toNat)
    case atStart => exact prel_start s2
    case round =>
      obtain ⟨g, a, bg, k, p, e, bs, rfl, rfl, rfl, rfl, S, hbs, hle, hk, hp, he⟩ := hrel
      have hab : a ≤ bs.length := S.head.le
      have hpe : p ≤ e := by omega
      have he2 : e ≤ 1000 := by omega
      have HB := Lib.hid hbs
      have HP := Lib.hid hp
      have HE := Lib.hid he
      clear hbs hp he s2 hE
      by_cases hlt : k < n ∧ k < 10
      · obtain ⟨hkn, hk10⟩ := hlt
        obtain ⟨b, off, z, rfl, hz, hbl, hcell⟩ := HZ.out k hkn
        have hc1 : wr.cell? ⟨b, off + k, none⟩ = some (.int .u8 (z : Int)) := (World.cell?_of_block (S.step.block b hbl (fun e => by cases e))).trans hcell
        clear hcell
        have t1 : decide (k < n) = true := by simpa using hkn
        have t2 : decide ((k : Int) < 10) = true := by simp; omega
        by_cases hev : k % 2 = 0
        · have t3 : ((k : Int) % 2 == 0) = true := by simp; omega
          by_cases hsh : e < p + z
          · have t4 : decide ((e : Int) < (p : Int) + (z : Int)) = true := by simp; omega
            go_wp2_with fail
            refine (take_st_short S (z : Int) p (by have := HP.out; have := HE.out; omega) HP.out).mono ?_
            rintro e1 w3 ⟨fb, rfl, S2⟩
            go_wp2_with fail
            refine (told_st_ S2 rfl).mono ?_
            rintro e2 w4 ⟨rfl, S3⟩
            go_wp2_with fail
            go_roundw
            case rel => exact ⟨g, a, bg, k + 1, p, e, bs, rfl, rfl, rfl, by go_num, S3, HB.out, hle, by omega, HP.out, HE.out⟩
            case measure => simp [intOf]; omega
          · have t4 : decide ((e : Int) < (p : Int) + (z : Int)) = false := by simp; omega
            have hn : a + z ≤ bs.length := by have := HP.out; have := HE.out; omega
            have hb1 : (p : Int) + (z : Int) ≤ (s'.size : Int) := by have := HE.out; omega
            have hq : ((⟨((bs.drop a).take z).toArray⟩ : ByteArray).toList == (s'.extract p (p + z)).toList) = true := ext_bool (by rw [← HP.out]; exact ext_eq s' bs bg a z HB.out hn)
            go_wp2_with fail
            refine (take_st_ok S z hn).mono ?_
            rintro e1 w3 ⟨rfl, S2⟩
            generalize (⟨((bs.drop a).take z).toArray⟩ : ByteArray) = t at *
            have hpz : (p : Int) + (z : Int) ≤ (e : Int) := by omega
            go_wp2_with fail
            refine (place_st_i S2 ((p : Int) + (z : Int)) (by have := HP.out; omega)).mono ?_
            rintro e2 w4 ⟨rfl, S3⟩
            go_wp2_with fail
            refine (left_st_ S3 ((e : Int) - ((p : Int) + (z : Int))) (by have := HP.out; have := HE.out; omega)).mono ?_
            rintro e3 w5 ⟨rfl, S4⟩
            by_cases hen : a + z = bs.length
            · have t5 : ((p : Int) + (z : Int) == (e : Int)) = true := by have := HP.out; have := HE.out; simp; omega
              have HN := Lib.hid hen
              clear hen
              go_wp2_with fail
              refine (end_st_ok S4 HN.out).mono ?_
              rintro e4 w6 ⟨rfl, S5⟩
              go_wp2_with fail
              go_roundw
              case rel => exact ⟨g, a + z, bg, k + 1, p + z, e, bs, rfl, by go_num, rfl, by go_num, S5, HB.out, hle, by omega, by have := HP.out; omega, HE.out⟩
              case measure => simp [intOf]; omega
            · have t5 : ((p : Int) + (z : Int) == (e : Int)) = false := by have := HP.out; have := HE.out; simp; omega
              go_wp2_with fail
              refine (end_st_long S4 (p + z) (by omega) (by have := HP.out; omega)).mono ?_
              rintro e4 w6 ⟨fb, rfl, S5⟩
              go_wp2_with fail
              go_roundw
              case rel => exact ⟨g, a + z, bg, k + 1, p + z, e, bs, rfl, by go_num, rfl, by go_num, S5.dropFaults, HB.out, hle, by omega, by have := HP.out; omega, HE.out⟩
              case measure => simp [intOf]; omega
        · have t3 : ((k : Int) % 2 == 0) = false := by simp; omega
          by_cases hsh : e < p + z
          · have t4 : decide ((e : Int) < (p : Int) + (z : Int)) = true := by simp; omega
            go_wp2_with fail
            refine (part_st_short S (z : Int) p (by have := HP.out; have := HE.out; omega) HP.out).mono ?_
            rintro e1 w3 ⟨fb, rfl, S2⟩
            go_wp2_with fail
            refine (told_st_ S2 rfl).mono ?_
            rintro e2 w4 ⟨rfl, S3⟩
            go_wp2_with fail
            go_roundw
            case rel => exact ⟨g, a, bg, k + 1, p, e, bs, rfl, rfl, rfl, by go_num, S3, HB.out, hle, by omega, HP.out, HE.out⟩
            case measure => simp [intOf]; omega
          · have t4 : decide ((e : Int) < (p : Int) + (z : Int)) = false := by simp; omega
            have hn : a + z ≤ bs.length := by have := HP.out; have := HE.out; omega
            have hpz : (p : Int) + (z : Int) ≤ (e : Int) := by omega
            go_wp2_with fail
            refine (part_st_ok S z hn).mono ?_
            rintro e1 w3 ⟨g2, rfl, S2⟩
            have HL := Lib.hid (sub_eq s' bs bg a z HB.out hn)
            have HM : Hid (((bs.drop a).take z).length = z) := by show _ = _; simp; omega
            generalize (bs.drop a).take z = l at *
            have S3 := S2.swap
            clear S2
            go_wp2_with fail
            refine (place_st_i S3 ((p : Int) + (z : Int)) (by have := HP.out; omega)).mono ?_
            rintro e2 w4 ⟨rfl, S4⟩
            go_wp2_with fail
            refine (left_st_ S4 ((e : Int) - (p : Int) - (z : Int)) (by have := HP.out; have := HE.out; omega)).mono ?_
            rintro e3 w5 ⟨rfl, S5⟩
            have S6 := S5.swap.one
            clear S3 S4 S5
            go_wp2_with fail
            refine (place_st_i S6 (p : Int) (by have := HP.out; omega)).mono ?_
            rintro e4 w6 ⟨rfl, S7⟩
            go_wp2_with fail
            by_cases hz0 : z = 0
            · refine (left_st_ S7 (z : Int) (by have := HM.out; omega)).mono ?_
              rintro e5 w7 ⟨rfl, S8⟩
              subst hz0
              simp only [Int.natCast_zero, Int.add_zero]
              go_wp2_with fail
              refine (end_st_ok S8 (by have := HM.out; omega)).mono ?_
              rintro e6 w8 ⟨rfl, S9⟩
              go_wp2_with fail
              go_roundw
              case rel => exact ⟨g2, 0, bg + a, k + 1, p, p, l, rfl, rfl, rfl, by go_num, S9, by rw [HM.out]; exact HL.out, by have := HM.out; omega, by omega, by have := HP.out; omega, by have := HP.out; have := HM.out; omega⟩
              case measure => simp [intOf]; omega
            · have hqz : (p : Int) + (z : Int) = ((p + z : Nat) : Int) := by omega
              have HQ := Lib.hid hqz
              have tq0 : (p : Int) < ((p + z : Nat) : Int) := by omega
              have tq1 : ((p + z : Nat) : Int) ≤ (e : Int) := by omega
              have HV : Hid ((l.length : Int) - ((0 : Nat) : Int) = ((p + z : Nat) : Int) - (p : Int)) := by show _ = _; have := HM.out; omega
              rw [hqz]
              rw [hqz] at t4 hpz
              clear hqz
              generalize hq : ((p + z : Nat) : Int) = q at *
              have HR := Lib.hid hq
              clear hq
              have tq2 : ((p : Int) == q) = false := by simp; omega
              refine (left_st_ S7 (q - (p : Int)) HV.out).mono ?_
              rintro e5 w7 ⟨rfl, S8⟩
              go_wp2_with fail
              refine (end_st_long S8 p (by have := HM.out; omega) (by have := HP.out; omega)).mono ?_
              rintro e6 w8 ⟨fb, rfl, S9⟩
              go_wp2_with fail
              go_roundw
              case rel => exact ⟨g2, 0, bg + a, k + 1, p, p + z, l, rfl, rfl, by rw [HR.out], by go_num, S9.dropFaults, by rw [HM.out]; exact HL.out, by have := HM.out; omega, by omega, by have := HP.out; omega, by have := HP.out; have := HM.out; omega⟩
              case measure => simp [intOf]; omega
      · have hm : (e : Int) - (p : Int) = ((bs.length - a : Nat) : Int) := by have := HP.out; have := HE.out; omega
        have HM := Lib.hid hm
        have hn : a + (bs.length - a) ≤ bs.length := by omega
        have hb1 : (e : Int) ≤ (s'.size : Int) := by have := HE.out; omega
        have hq0 := ext_eq s' bs bg a (bs.length - a) HB.out hn
        have hq : ((⟨((bs.drop a).take (bs.length - a)).toArray⟩ : ByteArray).toList == (s'.extract p e).toList) = true := ext_bool (hq0.trans (by have h1 := HP.out; have h2 := HE.out; rw [show bg + a + (bs.length - a) = e from by omega, h1]))
        clear hm hq0
        have hcase : (decide (k < n) = true ∧ decide ((k : Int) < 10) = false) ∨ decide (k < n) = false := by
          by_cases hkn : k < n
          · exact .inl ⟨by simpa using hkn, by simp; omega⟩
          · exact .inr (by simpa using hkn)
        rcases hcase with ⟨t1, t2⟩ | t1
        all_goals
          go_wp2_with fail
          rw [HM.out]
          refine (take_st_ok S (bs.length - a) hn).mono ?_
          rintro e1 w3 ⟨rfl, S2⟩
          generalize (⟨((bs.drop a).take (bs.length - a)).toArray⟩ : ByteArray) = t at *
          go_wp2_with fail
          refine (byte_st_short S2 e (by omega) (by have := HP.out; have := HE.out; omega)).mono ?_
          rintro e2 w4 ⟨fb, rfl, S3⟩
          go_wp2_with fail
          refine (end_st_ok S3 (by omega)).mono ?_
          rintro e3 w5 ⟨rfl, S4⟩
          go_wp2_with fail
          refine (told_st_ S4 rfl).mono ?_
          rintro e4 w6 ⟨rfl, S5⟩
          go_wp2_with fail
          go_ret
          exact ⟨rfl, S5.step⟩
end Go.Proofs.YtndkjlnajoblaaaDoor

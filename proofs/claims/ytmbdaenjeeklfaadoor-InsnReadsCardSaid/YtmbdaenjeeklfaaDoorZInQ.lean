/- Texts joined for the claim's sake: Folds, RefL, IRfP. -/
import Derived.Test.YtmbdaenjeeklfaaDoorZIbD
import Derived.LoopTactic
import Derived.Deep.LoopGhost
import Derived.Deep.RegionWith
import Derived.Test.YtmbdaenjeeklfaaDoorZInF
import Derived.Test.YtmbdaenjeeklfaaDoorZIbH
/- LebFolds: whatever two whole numbers, the call returns true, and turns nothing that was there. -/
namespace Go.Proofs.YtmbdaenjeeklfaaDoor
open Go.RowKit

theorem sev_mono : ∀ (m n : Nat), n ≤ m → (sev n).length ≤ (sev m).length := by
  intro m
  induction m using Nat.strongRecOn with
  | _ m ih =>
    intro n hn
    by_cases h1 : n < 128
    · rw [sev_lt h1]; exact sev_pos m
    · rw [sev_ge (by omega : 128 ≤ n), sev_ge (by omega : 128 ≤ m), List.length_cons, List.length_cons]
      have := ih (m / 128) (by omega) (n / 128) (by omega)
      omega
theorem St.drop {w0 w : World} {rs : List RD} {fs : List FD} (s : St w0 w rs fs) : St w0 w [] [] := ⟨s.err, s.err0, s.step, by simp, by simp, by simp⟩
theorem u_eq {w0 w : World} {rs : List RD} {fs : List FD} {g a bg : Nat} {bs rest : List UInt8} (s : St w0 w (⟨g, bs, a, bg⟩ :: rs) fs) (n b : Nat) (v : Int) (hv : v = (n : Int)) (hn : n < 18446744073709551616) (he : bs.drop a = sev n ++ rest) (hb : a + (sev n).length = b) :
    Calls Tryd.prog 76 #[.pointer (some ⟨g, 0, none⟩)] w fun e w' => e = .returned (.tuple #[.int .u64 v, .nilIface]) ∧ St w0 w' (⟨g, bs, b, bg⟩ :: rs) fs := by
  subst hv
  exact u_laid s n b hn he hb

end Go.Proofs.YtmbdaenjeeklfaaDoor

/- The document's answer for numbers (colloquyref02): Bytes, Fold, Unfold: what each answers, and what it leaves. -/
namespace Go.Proofs.YtmbdaenjeeklfaaDoor
open Go.RowKit

theorem byte_string {w : World} {b : Nat} {x : Int} {u : UInt8} (hb : Blk w b 5 #[.int .u8 x]) (hx : x = (u.toNat : Int)) :
    (convert 63 9 (.slice (some ⟨b, 0, none⟩) 1 1)).run Tryd.prog w = .ok (.string ⟨#[u]⟩) w := by
  subst hx
  refine run_convert_bytes_back w _ _ _ ⟨b, 0, none⟩ 1 [u] Tryd.underlying63 Tryd.underlying5 Tryd.underlying9 fun j hj => ?_
  simp at hj
  subst hj
  exact hb.cell 0

set_option maxHeartbeats 1000000 in
theorem rfold_any (z : Int) (hz : Whole z) (w : World) :
    Calls Tryd.prog 39 #[.int .i64 z] w fun e w' => e = .returned (.int .u64 (foldN z : Int)) ∧ w.grownBy w' none := by
  obtain ⟨h1, h2⟩ := hz
  by_cases h0 : 0 ≤ z
  · have e : (foldN z : Int) = 2 * z := by unfold foldN; rw [if_pos h0]; omega
    rw [e]
    go_enter Tryd.func39, Tryd.ntmps39
    go_wp2
    go_ret
    exact ⟨rfl, only_refl _ _⟩
  · have e : (foldN z : Int) = 2 * (-z) - 1 := by unfold foldN; rw [if_neg h0]; omega
    rw [e]
    clear e
    go_enter Tryd.func39, Tryd.ntmps39
    go_wp2
    go_ret
    exact ⟨by simp; omega, only_refl _ _⟩

set_option maxHeartbeats 1000000 in
theorem runfold_any (n : Nat) (hn : n < 18446744073709551616) (w : World) :
    Calls Tryd.prog 81 #[.int .u64 (n : Int)] w fun e w' => e = .returned (.int .i64 (unfoldZ n)) ∧ w.grownBy w' none := by
  have h0 : (0 : Int) ≤ (n : Int) := by omega
  have h1 : (n : Int) < 18446744073709551616 := by omega
  by_cases hp : n % 2 = 0
  · have e : unfoldZ n = (n : Int) / 2 := by unfold unfoldZ; rw [if_pos hp]; omega
    have t1 : ((n : Int) % 2 == 0) = true := by simp; omega
    rw [e]
    clear e hp
    generalize (n : Int) = m at *
    go_enter Tryd.func81, Tryd.ntmps81
    go_wp2
    go_ret
    exact ⟨rfl, only_refl _ _⟩
  · have e : unfoldZ n = -((n : Int) / 2) - 1 := by unfold unfoldZ; rw [if_neg hp]; omega
    have t1 : ((n : Int) % 2 == 0) = false := by simp; omega
    rw [e]
    clear e hp
    generalize (n : Int) = m at *
    go_enter Tryd.func81, Tryd.ntmps81
    go_wp2
    go_ret
    exact ⟨rfl, only_refl _ _⟩

set_option maxRecDepth 100000 in
set_option maxHeartbeats 2000000 in
theorem rbytes_any (n : Nat) : n < 18446744073709551616 → ∀ w : World,
    Calls Tryd.prog 38 #[.int .u64 (n : Int)] w fun e w' => e = .returned (.string ⟨(sev n).toArray⟩) ∧ w.grownBy w' none := by
  induction n using Nat.strongRecOn with
  | _ n ih =>
    intro hn w
    have h0 : (0 : Int) ≤ (n : Int) := by omega
    have h1 : (n : Int) < 18446744073709551616 := by omega
    by_cases h : n < 128
    · have h2 : (n : Int) < 128 := by omega
      have hv : Hid ((n : Int) = ((UInt8.ofNat n).toNat : Int)) := by show _ = _; rw [u8_ofNat (by omega)]
      rw [sev_lt h]
      clear ih hn h
      have hB := Blk.new w 5 #[.int .u8 (n : Int)]
      have hcv := byte_string hB hv.out
      generalize UInt8.ofNat n = u at *
      generalize (n : Int) = m at *
      go_enter Tryd.func38, Tryd.ntmps38
      go_wp2_with fail
      go_ret
      exact ⟨rfl, only_alloc (only_refl _ _) _⟩
    · have h2 : (128 : Int) ≤ (n : Int) := by omega
      have hv : Hid ((n : Int) % 128 + 128 = ((UInt8.ofNat (n % 128 + 128)).toNat : Int)) := by show _ = _; rw [u8_ofNat (by omega)]; omega
      have H := ih (n / 128) (by omega) (by omega)
      rw [show ((n / 128 : Nat) : Int) = (n : Int) / 128 by omega] at H
      rw [sev_ge (by omega)]
      have hlen := sev_len10 (n := n / 128) (by omega)
      clear ih hn h
      generalize UInt8.ofNat (n % 128 + 128) = u at *
      generalize sev (n / 128) = l at *
      obtain ⟨T, hT⟩ : ∃ T : ByteArray, (⟨l.toArray⟩ : ByteArray) = T := ⟨_, rfl⟩
      have hTs : T.size ≤ 10 := by rw [← hT, ← bytes_len]; simpa using hlen
      have hTu : Hid ((⟨(u :: l).toArray⟩ : ByteArray) = ⟨#[u]⟩ ++ T) := by
        show _ = _
        rw [← hT]
        apply ByteArray.ext
        simp
      rw [hT] at H
      have hcc : ¬ (9223372036854775807 < (1 : Int) + (T.size : Int)) := by omega
      have hcc2 : ¬ (IntKind.i64.max < (1 : Int) + (T.size : Int)) := hcc
      rw [hTu.out]
      clear hT hlen hTu
      generalize (n : Int) = m at *
      have hx : Hid (IntKind.u8.wrap (IntKind.u8.wrap (m.tmod 128) + 128) = (u.toNat : Int)) := by
        show _ = _
        rw [← hv.out, Int.tmod_eq_emod_of_nonneg h0, IntWalk.u8_in (m % 128) ⟨by omega, by omega⟩, IntWalk.u8_in (m % 128 + 128) ⟨by omega, by omega⟩]
      rw [← IntWalk.u64_quo m 128 ⟨h0, by omega, by omega⟩] at H
      have hcvU : ∀ W : World, (convert 63 9 (.slice (some ⟨W.heap.size, 0, none⟩) 1 1)).run Tryd.prog (W.alloc (.cells #[.int .u8 (IntKind.u8.wrap (IntKind.u8.wrap (m.tmod 128) + 128))] 5)) = .ok (.string ⟨#[u]⟩) (W.alloc (.cells #[.int .u8 (IntKind.u8.wrap (IntKind.u8.wrap (m.tmod 128) + 128))] 5)) := fun W => byte_string (Blk.new W _ _) hx.out
      have hcvD : ∀ W : World, (convert 63 9 (.slice (some ⟨W.heap.size, 0, none⟩) 1 1)).run Tryd.prog (W.alloc (.cells #[.int .u8 (IntKind.u8.wrap (IntKind.u8.wrap (m.tmod 128) + 128))] 5)).drew = .ok (.string ⟨#[u]⟩) (W.alloc (.cells #[.int .u8 (IntKind.u8.wrap (IntKind.u8.wrap (m.tmod 128) + 128))] 5)).drew := fun W => byte_string (Blk.new W _ _) hx.out
      have hcvK : Hid (∀ (W w' : World), (W.alloc (.cells #[.int .u8 (IntKind.u8.wrap (IntKind.u8.wrap (m.tmod 128) + 128))] 5)).drew.grownBy w' none → (convert 63 9 (.slice (some ⟨W.heap.size, 0, none⟩) 1 1)).run Tryd.prog w' = .ok (.string ⟨#[u]⟩) w') := fun W w' hg => byte_string (((Blk.new W _ _).drew).kept hg) hx.out
      go_enter Tryd.func38, Tryd.ntmps38
      go_wp2_with fail
      go_region_with (go_at_call 38; refine (H _).mono ?_; rintro e w1 ⟨rfl, hg⟩; (first | (have hk := hcvK.out _ _ hg) | skip))
      all_goals go_wp2
      all_goals go_ret
      all_goals first
        | exact ⟨rfl, only_trans (only_drew (only_alloc (only_refl w none) _)) hg⟩
        | exact ⟨rfl, only_alloc (only_trans (only_drew (only_refl w none)) hg) _⟩
        | exact ⟨rfl, only_drew (only_alloc (only_trans (only_drew (only_refl w none)) hg) _)⟩
end Go.Proofs.YtmbdaenjeeklfaaDoor

/- The document's answer for instructions (colloquyref09): Bytes, said plainly, and its numbers. -/
namespace Go.Proofs.YtmbdaenjeeklfaaDoor
open Go.RowKit

theorem rbz (z : Int) (h0 : 0 ≤ z) (h1 : z ≤ 1000) (w : World) : Calls Tryd.prog 38 #[.int .u64 z] w fun e w' => ∃ T : ByteArray, e = .returned (.string T) ∧ T.data.toList = sevZ z ∧ T.size ≤ 10 ∧ w.grownBy w' none := by
  have h := rbytes_any z.toNat (by omega) w
  rw [show ((z.toNat : Nat) : Int) = z by omega] at h
  refine h.mono ?_
  rintro e w' ⟨rfl, hg⟩
  have hl : (⟨(sev z.toNat).toArray⟩ : ByteArray).data.toList = sevZ z := rfl
  refine ⟨_, rfl, hl, ?_, hg⟩
  rw [← bytes_len, hl]
  exact sev_len10 (by omega)
theorem rbf (a : Int) (ha : Whole a) (w : World) : Calls Tryd.prog 38 #[.int .u64 (foldN a : Int)] w fun e w' => ∃ T : ByteArray, e = .returned (.string T) ∧ T.data.toList = sev (foldN a) ∧ T.size ≤ 10 ∧ w.grownBy w' none := by
  refine (rbytes_any (foldN a) (foldN_lt ha) w).mono ?_
  rintro e w' ⟨rfl, hg⟩
  refine ⟨_, rfl, rfl, ?_, hg⟩
  rw [← bytes_len]
  exact sev_len10 (foldN_lt ha)
def hd2 (c : Kl) (x : Ins) : List UInt8 := match c with
  | .one => sevZ x.b
  | .branch => sevZ x.b
  | .new_ => sevZ x.b
  | .spawn => sevZ x.b
  | .two => sevZ x.b ++ sevZ x.c
  | .select => sevZ x.b ++ sevZ x.c
  | _ => []
def tl2 (c : Kl) (x : Ins) : List UInt8 := match c with
  | .branch => sevZ x.l.length
  | .spawn => sevZ x.l.length
  | .new_ => sevZ x.d
  | _ => []
theorem bytesI_eq {x : Ins} (hp : clI x.op ≠ .push) : bytesI x = UInt8.ofNat x.op.toNat :: (hd2 (clI x.op) x ++ (tl2 (clI x.op) x ++ x.l.flatMap sevZ)) := by
  unfold bytesI
  rw [opsB_eq]
  generalize clI x.op = c at *
  cases c
  case push => exact absurd rfl hp
  all_goals simp [hdF, hd2, tl2, fB, isA, val, sevZ]
theorem may_all {c : Kl} {x : Ins} (h : May c x) : (0 ≤ x.b ∧ x.b ≤ 1000) ∧ (0 ≤ x.c ∧ x.c ≤ 1000) ∧ (0 ≤ x.d ∧ x.d ≤ 1000) ∧ x.l.length ≤ 8 ∧ ∀ z ∈ x.l, 0 ≤ z ∧ z ≤ 1000 := by
  have hg := h.good
  obtain ⟨p1, p2, p3, p4, p5, p6⟩ := h.parts
  have he := h.els_
  have h8 := (cov_parts h.cov).2
  have hk := fun k => kOf_le c k
  have hEach : (fmOf c).each.most ≤ 1000 := hk (.E 0)
  refine ⟨?_, ?_, ?_, h8, fun z hz => ⟨(he z hz).1, Int.le_trans (he z hz).2 hEach⟩⟩
  · rcases p2 with p2 | p2
    · have hm : Fld.B ∈ hdF c := by cases c <;> simp [fmOf, k0, kR, Kd.is0] at p2 <;> simp [hdF]
      rcases (hg _ hm).2 with h1 | h1
      · cases h1
      · exact ⟨h1.1, Int.le_trans h1.2 (hk _)⟩
    · omega
  · rcases p3 with p2 | p2
    · have hm : Fld.C ∈ hdF c := by cases c <;> simp [fmOf, k0, kR, Kd.is0] at p2 <;> simp [hdF]
      rcases (hg _ hm).2 with h1 | h1
      · cases h1
      · exact ⟨h1.1, Int.le_trans h1.2 (hk _)⟩
    · omega
  · rcases p4 with p2 | p2
    · have hm : Fld.D ∈ hdF c := by cases c <;> simp [fmOf, k0, kR, Kd.is0] at p2 <;> simp [hdF]
      rcases (hg _ hm).2 with h1 | h1
      · cases h1
      · exact ⟨h1.1, Int.le_trans h1.2 (hk _)⟩
    · omega
end Go.Proofs.YtmbdaenjeeklfaaDoor

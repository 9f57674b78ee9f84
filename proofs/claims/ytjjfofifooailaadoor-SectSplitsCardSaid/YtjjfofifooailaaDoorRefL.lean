/- The document's answer for numbers (colloquyref02): Bytes, Fold, Unfold: what each answers, and what it leaves. -/
import Derived.Test.YtjjfofifooailaaDoorFolds
import Derived.Deep.RegionWith
namespace Go.Proofs.YtjjfofifooailaaDoor
open Go.RowKit

theorem byte_string {w : World} {b : Nat} {x : Int} {u : UInt8} (hb : Blk w b 5 #[.int .u8 x]) (hx : x = (u.toNat : Int)) :
    (convert 49 9 (.slice (some ⟨b, 0, none⟩) 1 1)).run Tryd.prog w = .ok (.string ⟨#[u]⟩) w := by
  subst hx
  refine run_convert_bytes_back w _ _ _ ⟨b, 0, none⟩ 1 [u] Tryd.underlying49 Tryd.underlying5 Tryd.underlying9 fun j hj => ?_
  simp at hj
  subst hj
  exact hb.cell 0

set_option maxRecDepth 100000 in
set_option maxHeartbeats 2000000 in
theorem rbytes_any (n : Nat) : n < 18446744073709551616 → ∀ w : World,
    Calls Tryd.prog 18 #[.int .u64 (n : Int)] w fun e w' => e = .returned (.string ⟨(sev n).toArray⟩) ∧ w.grownBy w' none := by
  induction n using Nat.strongRecOn with
  | _ n ih =>
    intro hn w
    have h0 : (0 : Int) ≤ (n : Int) := by omega
    have h1 : (n : Int) < 18446744073709551616 := by omega
    by_cases h : n < 128
    · have h2 : (n : Int) < 128 := by omega
      have hv : Hid ((n : Int) = ((UInt8.ofNat n).toNat : Int)) := by show _ = _; rw [u8_ofNat (by omega)]
      rw [sev_lt h]
      clear ih hn h
      have hB := Blk.new w 5 #[.int .u8 (n : Int)]
      have hcv := byte_string hB hv.out
      generalize UInt8.ofNat n = u at *
      generalize (n : Int) = m at *
      go_enter Tryd.func18, Tryd.ntmps18
      go_wp2_with fail
      go_ret
      exact ⟨rfl, only_alloc (only_refl _ _) _⟩
    · have h2 : (128 : Int) ≤ (n : Int) := by omega
      have hv : Hid ((n : Int) % 128 + 128 = ((UInt8.ofNat (n % 128 + 128)).toNat : Int)) := by show _ = _; rw [u8_ofNat (by omega)]; omega
      have H := ih (n / 128) (by omega) (by omega)
      rw [show ((n / 128 : Nat) : Int) = (n : Int) / 128 by omega] at H
      rw [sev_ge (by omega)]
      have hlen := sev_len10 (n := n / 128) (by omega)
      clear ih hn h
      generalize UInt8.ofNat (n % 128 + 128) = u at *
      generalize sev (n / 128) = l at *
      obtain ⟨T, hT⟩ : ∃ T : ByteArray, (⟨l.toArray⟩ : ByteArray) = T := ⟨_, rfl⟩
      have hTs : T.size ≤ 10 := by rw [← hT, ← bytes_len]; simpa using hlen
      have hTu : Hid ((⟨(u :: l).toArray⟩ : ByteArray) = ⟨#[u]⟩ ++ T) := by
        show _ = _
        rw [← hT]
        apply ByteArray.ext
        simp
      rw [hT] at H
      have hcc : ¬ (9223372036854775807 < (1 : Int) + (T.size : Int)) := by omega
      have hcc2 : ¬ (IntKind.i64.max < (1 : Int) + (T.size : Int)) := hcc
      rw [hTu.out]
      clear hT hlen hTu
      generalize (n : Int) = m at *
      have hx : Hid (IntKind.u8.wrap (IntKind.u8.wrap (m.tmod 128) + 128) = (u.toNat : Int)) := by
        show _ = _
        rw [← hv.out, Int.tmod_eq_emod_of_nonneg h0, IntWalk.u8_in (m % 128) ⟨by omega, by omega⟩, IntWalk.u8_in (m % 128 + 128) ⟨by omega, by omega⟩]
      rw [← IntWalk.u64_quo m 128 ⟨h0, by omega, by omega⟩] at H
      have hcvU : ∀ W : World, (convert 49 9 (.slice (some ⟨W.heap.size, 0, none⟩) 1 1)).run Tryd.prog (W.alloc (.cells #[.int .u8 (IntKind.u8.wrap (IntKind.u8.wrap (m.tmod 128) + 128))] 5)) = .ok (.string ⟨#[u]⟩) (W.alloc (.cells #[.int .u8 (IntKind.u8.wrap (IntKind.u8.wrap (m.tmod 128) + 128))] 5)) := fun W => byte_string (Blk.new W _ _) hx.out
      have hcvD : ∀ W : World, (convert 49 9 (.slice (some ⟨W.heap.size, 0, none⟩) 1 1)).run Tryd.prog (W.alloc (.cells #[.int .u8 (IntKind.u8.wrap (IntKind.u8.wrap (m.tmod 128) + 128))] 5)).drew = .ok (.string ⟨#[u]⟩) (W.alloc (.cells #[.int .u8 (IntKind.u8.wrap (IntKind.u8.wrap (m.tmod 128) + 128))] 5)).drew := fun W => byte_string (Blk.new W _ _) hx.out
      have hcvK : Hid (∀ (W w' : World), (W.alloc (.cells #[.int .u8 (IntKind.u8.wrap (IntKind.u8.wrap (m.tmod 128) + 128))] 5)).drew.grownBy w' none → (convert 49 9 (.slice (some ⟨W.heap.size, 0, none⟩) 1 1)).run Tryd.prog w' = .ok (.string ⟨#[u]⟩) w') := fun W w' hg => byte_string (((Blk.new W _ _).drew).kept hg) hx.out
      go_enter Tryd.func18, Tryd.ntmps18
      go_wp2_with fail
      go_region_with (go_at_call 18; refine (H _).mono ?_; rintro e w1 ⟨rfl, hg⟩; (first | (have hk := hcvK.out _ _ hg) | skip))
      all_goals go_wp2
      all_goals go_ret
      all_goals first
        | exact ⟨rfl, only_trans (only_drew (only_alloc (only_refl w none) _)) hg⟩
        | exact ⟨rfl, only_alloc (only_trans (only_drew (only_refl w none)) hg) _⟩
        | exact ⟨rfl, only_drew (only_alloc (only_trans (only_drew (only_refl w none)) hg) _)⟩
end Go.Proofs.YtjjfofifooailaaDoor

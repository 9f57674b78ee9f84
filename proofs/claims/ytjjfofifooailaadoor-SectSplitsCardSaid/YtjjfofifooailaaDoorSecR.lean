/- The document's answer for sections (colloquyref03): Join. -/
import Derived.Test.YtjjfofifooailaaDoorRefL
import Derived.Test.YtjjfofifooailaaDoorSec
import Derived.Test.YtjjfofifooailaaDoorSecJ
import Derived.LoopTactic
import Derived.Deep.LoopGhost
import Derived.Deep.DeepCutAuto
import Derived.Deep.CutBlock
import Derived.Deep.RegionHeld3
namespace Go.Proofs.YtjjfofifooailaaDoor
open Go.RowKit

/-- The first k sections behind the head. -/
def joinedTo (T : Nat → List UInt8) : Nat → List UInt8
  | 0 => hd5
  | k + 1 => joinedTo T k ++ sec (k + 1) (T k)
theorem joinedTo_3 (T : Nat → List UInt8) : joinedTo T 3 = joined (T 0) (T 1) (T 2) := by simp [joinedTo, joined]
theorem joinedTo_len (T : Nat → List UInt8) (hT : ∀ k, (T k).length ≤ 65536) : ∀ k, (joinedTo T k).length ≤ 5 + k * 65600 := by
  intro k
  induction k with
  | zero => simp [joinedTo, hd5]
  | succ k ih =>
    have h1 := hT k
    have h2 := sev_short h1
    simp only [joinedTo, List.length_append, sec_len]
    omega

theorem alloc_cell {W : World} {p : Addr} {v : Value} (h : W.cell? p = some v) (o : Obj) : (W.alloc o).cell? p = some v := by
  rw [World.cell?_alloc_some W p o (by rw [h]; rfl)]; exact h
/-- What stands between two rounds. -/
structure RJ (w : World) (A : Nat → ByteArray) (W : World) : Prop where
  grow : w.grownBy W none
  b0 : Blk W w.heap.size 22 #[.string (A 0), .string (A 1), .string (A 2)]
theorem RJ.at_ {w : World} {A : Nat → ByteArray} {W : World} (h : RJ w A W) {i : Nat} (hi : i < 3) : W.cell? ⟨w.heap.size, i, none⟩ = some (.string (A i)) := by
  have hk : i = 0 ∨ i = 1 ∨ i = 2 := by omega
  rcases hk with rfl | rfl | rfl <;> exact h.b0.cell _
theorem RJ.new {w W W' : World} {A : Nat → ByteArray} (h : RJ w A W) (hg : W.grownBy W' none) : RJ w A W' := ⟨only_trans h.grow hg, h.b0.kept hg⟩

set_option maxRecDepth 100000 in
set_option maxHeartbeats 4000000 in
theorem rjoin_ok (A : Nat → ByteArray) (hA : ∀ k, (A k).size ≤ 65536) (w : World) :
    Calls Tryd.prog 8 #[.agg #[.string (A 0), .string (A 1), .string (A 2)]] w fun e w' => e = .returned (.tuple #[.string ⟨(joined (A 0).data.toList (A 1).data.toList (A 2).data.toList).toArray⟩, .int .i64 0]) ∧ w.grownBy w' none := by
  have R0 : RJ w A (w.alloc (.cells #[.string (A 0), .string (A 1), .string (A 2)] 22)) := ⟨only_alloc (only_refl _ _) _, Blk.new w _ _⟩
  rw [← joinedTo_3 (fun k => (A k).data.toList)]
  go_enter Tryd.func8, Tryd.ntmps8
  go_wp2_with fail
  go_loopw [4, 5] (fun v4 v5 wr => ∃ (k : Nat) (T : ByteArray), v4 = .string T ∧ v5 = .int .i64 (k : Int) ∧ k ≤ 3 ∧ T.data.toList = joinedTo (fun k => (A k).data.toList) k ∧ RJ w A wr) (fun _ v _ => (3 - intOf v).toNat)
  case atStart => exact ⟨0, ⟨#[67, 76, 81, 89, 1]⟩, rfl, rfl, by omega, rfl, R0⟩
  case round =>
    obtain ⟨k, T, rfl, rfl, hk, hT, hR⟩ := hrel
    by_cases h3 : k = 3
    · subst h3
      have ht := bytes_of_list hT
      have HT := Lib.hid ht
      clear hT ht
      go_wp2_with fail
      go_ret2
      exact ⟨by rw [HT.out]; rfl, hR.grow⟩
    · have hk3 : k < 3 := by omega
      have hk3' : (k : Int) < 3 := by omega
      have hk0 : (0 : Int) ≤ (k : Int) := by omega
      have ck := hR.at_ hk3
      have hz := hA k
      have hzi : ((A k).size : Int) ≤ 65536 := by omega
      have hzn : (0 : Int) ≤ ((A k).size : Int) := by omega
      have hTl : T.size ≤ 200000 := by
        rw [← bytes_len, hT]
        have := joinedTo_len (fun k => (A k).data.toList) (fun k => by rw [bytes_len]; exact hA k) k
        omega
      obtain ⟨u, hu⟩ : ∃ u : UInt8, u = UInt8.ofNat (k + 1) := ⟨_, rfl⟩
      have hx : IntKind.u8.wrap (IntKind.i64.wrap ((k : Int) + 1)) = (u.toNat : Int) := by
        rw [hu, u8_ofNat (by omega), IntKind.wrap_i64, IntKind.wrap_u8]
        omega
      obtain ⟨S, hS⟩ : ∃ S : ByteArray, (⟨(sev (A k).size).toArray⟩ : ByteArray) = S := ⟨_, rfl⟩
      have hSl : S.size ≤ 10 := by rw [← hS, ← bytes_len]; exact sev_short hz
      have H := fun W => rbytes_any (A k).size (by omega) W
      rw [hS] at H
      have HE : Hid (T ++ ⟨#[u]⟩ ++ S ++ A k = ⟨(joinedTo (fun k => (A k).data.toList) (k + 1)).toArray⟩) := by
        show _ = _
        apply ByteArray.ext
        apply Array.toList_inj.1
        rw [ByteArray.data_append, ByteArray.data_append, ByteArray.data_append, Array.toList_append, Array.toList_append, Array.toList_append, hT, ← hS, hu]
        simp [joinedTo, sec]
      have HN : Hid ((joinedTo (fun k => (A k).data.toList) (k + 1)).toArray.toList = joinedTo (fun k => (A k).data.toList) (k + 1)) := by show _ = _; simp
      have HK := Lib.hid hk3
      have HR := Lib.hid hR
      have w64 : IntKind.u64.wrap ((A k).size : Int) = ((A k).size : Int) := by rw [IntKind.wrap_u64]; omega
      have hcvD : ∀ W : World, (convert 49 9 (.slice (some ⟨W.heap.size, 0, none⟩) 1 1)).run Tryd.prog (W.alloc (.cells #[.int .u8 (u.toNat : Int)] 5)).drew = .ok (.string ⟨#[u]⟩) (W.alloc (.cells #[.int .u8 (u.toNat : Int)] 5)).drew := fun W => byte_string (Blk.new W _ _) rfl
      have hcvU : ∀ W : World, (convert 49 9 (.slice (some ⟨W.heap.size, 0, none⟩) 1 1)).run Tryd.prog (W.alloc (.cells #[.int .u8 (u.toNat : Int)] 5)) = .ok (.string ⟨#[u]⟩) (W.alloc (.cells #[.int .u8 (u.toNat : Int)] 5)) := fun W => byte_string (Blk.new W _ _) rfl
      have hcvK : Hid (∀ (W w' : World), (W.alloc (.cells #[.int .u8 (u.toNat : Int)] 5)).drew.grownBy w' none → (convert 49 9 (.slice (some ⟨W.heap.size, 0, none⟩) 1 1)).run Tryd.prog w' = .ok (.string ⟨#[u]⟩) w') := fun W w' hg => byte_string (((Blk.new W _ _).drew).kept hg) rfl
      have hc1 : ¬ (T.size + (⟨#[u]⟩ : ByteArray).size > 9223372036854775807) := by show ¬ (T.size + 1 > _); omega
      have hc2 : ¬ (T.size + 1 > 9223372036854775807) := by omega
      have hc3 : ¬ ((T ++ ⟨#[u]⟩).size + S.size > 9223372036854775807) := by rw [ByteArray.size_append]; show ¬ (T.size + 1 + _ > _); omega
      have hc4 : ¬ (T.size + 1 + S.size > 9223372036854775807) := by omega
      have hc5 : ¬ ((T ++ ⟨#[u]⟩ ++ S).size + (A k).size > 9223372036854775807) := by rw [ByteArray.size_append, ByteArray.size_append]; show ¬ (T.size + 1 + _ + _ > _); omega
      have hc6 : ¬ (T.size + 1 + S.size + (A k).size > 9223372036854775807) := by omega
      have hB0 := hR.b0.lt
      have cl := ((hR.new (only_alloc (only_refl wr none) (.cells #[.int .u8 (u.toNat : Int)] 5)))).at_ hk3
      have HQ : Hid (∀ W : World, wr.grownBy W none → W.cell? ⟨w.heap.size, k, none⟩ = some (.string (A k))) := fun W hg => (hR.new hg).at_ hk3
      clear hT hS hu hA hR R0 hk h3
      generalize A k = a at *
      go_wp2_with fail
      go_region_with (go_at_call 18; (refine (H _).mono ?_; rintro e w1 ⟨rfl, hg⟩); (first | have cm := HQ.out _ (only_trans (only_drew (only_alloc (only_refl wr none) _)) hg) | have cm := HQ.out _ (only_trans (only_drew (only_refl wr none)) hg)); have cn := alloc_cell cm (.cells #[.int .u8 (u.toNat : Int)] 5); (try have hk := hcvK.out _ _ hg))
      all_goals
        go_wp2_with fail
        go_roundw
        case rel =>
          refine ⟨k + 1, _, rfl, by go_num, by have := HK.out; omega, ?_, ?_⟩
          · rw [HE.out]
          · first
              | exact HR.out.new (only_trans (only_drew (only_alloc (only_refl wr none) _)) hg)
              | exact HR.out.new (only_alloc (only_trans (only_drew (only_refl wr none)) hg) _)
              | exact HR.out.new (only_drew (only_alloc (only_trans (only_drew (only_refl wr none)) hg) _))
        case measure => simp [intOf]; have := HK.out; omega
end Go.Proofs.YtjjfofifooailaaDoor

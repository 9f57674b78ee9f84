/- colloquylaw03: turned: bytes, of which one is turned, and some stay. -/
import Derived.Test.YtjjfofifooailaaDoorSecX
import Derived.OpenShut
import Derived.LoopTactic
import Derived.Deep.LoopGhost
import Derived.Deep.DeepCutAuto
import Derived.Deep.CutBlock
namespace Go.Proofs.YtjjfofifooailaaDoor
open Go.RowKit

theorem xor_byte (x y : Int) : ∃ u : UInt8, bits BinOp.xor IntKind.u8 x y = (u.toNat : Int) := by
  have := bounds_u8 (wf_bits BinOp.xor IntKind.u8 x y)
  exact ⟨UInt8.ofNat (bits BinOp.xor IntKind.u8 x y).toNat, by rw [u8_ofNat (by omega)]; omega⟩
theorem byts_set {W : World} {b i : Nat} {bs : List UInt8} (h : Byts W b 0 bs) (u : UInt8) : Byts (W.setCell ⟨b, i, none⟩ (.int .u8 (u.toNat : Int))) b 0 (bs.set i u) := by
  obtain ⟨cs, fr, hb, hc⟩ := h
  refine ⟨cs.setIfInBounds i (.int .u8 (u.toNat : Int)), fr, ?_, fun j v hj => ?_⟩
  · simp [World.setCell, Array.getElem?_modify, hb]
  · rw [Nat.zero_add]
    rw [List.getElem?_set] at hj
    split at hj
    · rename_i hij
      subst hij
      split at hj
      · rename_i hlt
        injection hj with hj
        subst hj
        have := hc i _ (List.getElem?_eq_getElem hlt)
        rw [Nat.zero_add] at this
        rw [Array.getElem?_setIfInBounds_self_of_lt (Array.getElem?_eq_some_iff.1 this).1]
      · cases hj
    · rename_i hij
      have := hc j v hj
      rw [Nat.zero_add] at this
      rw [Array.getElem?_setIfInBounds_ne hij]
      exact this

/-- What stands where bytes are turned. -/
structure TY (w : World) (a y z : Int) (n : Nat) (W : World) : Prop where
  grow : w.grownBy W none
  bt : Blk W w.heap.size 25 #[.int .u16 a, .int .u8 y, .int .i64 z]
  bs : ∃ bs, bs.length = n ∧ Byts W (w.heap.size + 1) 0 bs
  fr : ∀ i, i < n → W.frozen? ⟨w.heap.size + 1, i, none⟩ = false
theorem ty_start (w : World) (a y z : Int) (s : ByteArray) (cap : Nat) :
    TY w a y z s.size (((w.alloc (.cells #[.int .u16 a, .int .u8 y, .int .i64 z] 25)).alloc (.cells (bytesRow s cap) 5 ((bytesRow s cap).size, (bytesRow s cap).size + 1))).drew) := by
  have hz : (w.alloc (.cells #[.int .u16 a, .int .u8 y, .int .i64 z] 25)).heap.size = w.heap.size + 1 := by simp
  have hn := heap_alloc_new (w.alloc (.cells #[.int .u16 a, .int .u8 y, .int .i64 z] 25)) (.cells (bytesRow s cap) 5 ((bytesRow s cap).size, (bytesRow s cap).size + 1))
  rw [hz] at hn
  refine ⟨only_drew (only_alloc (only_alloc (only_refl _ _) _) _), ((Blk.new w _ _).alloc _).drew, ⟨s.data.toList, bytes_len s, bytesRow s cap, _, hn, fun j u hj => ?_⟩, fun i hi => ?_⟩
  · have hjl : j < s.data.size := by simpa using (List.getElem?_eq_some_iff.1 hj).1
    rw [Nat.zero_add, bytesRow_at s cap j hjl]
    have : s.data[j] = u := by
      have h2 := (List.getElem?_eq_some_iff.1 hj).2
      simpa using h2
    rw [this]
  · have hsz : s.size ≤ (bytesRow s cap).size := by
      have e : s.data.size = s.size := rfl
      simp [bytesRow]
    have hn' : (((w.alloc (.cells #[.int .u16 a, .int .u8 y, .int .i64 z] 25)).alloc (.cells (bytesRow s cap) 5 ((bytesRow s cap).size, (bytesRow s cap).size + 1))).drew).heap[w.heap.size + 1]? = _ := hn
    unfold World.frozen?
    rw [hn']
    simp
    omega
theorem ty_string {w W : World} {a y z : Int} {n : Nat} (h : TY w a y z n W) (m cap : Nat) (hm : m ≤ n) :
    ∃ r : ByteArray, r.size = m ∧ (convert 49 9 (.slice (some ⟨w.heap.size + 1, 0, none⟩) m cap)).run Tryd.prog W = .ok (.string r) W := by
  obtain ⟨bs, hl, hb⟩ := h.bs
  have hp := hb.part 0 m
  rw [Nat.zero_add, List.drop_zero] at hp
  have hlen : (bs.take m).length = m := by rw [List.length_take]; omega
  exact ⟨_, by rw [← bytes_len]; exact hlen, byts_string hp m cap hlen⟩
theorem ty_set {w W : World} {a y z : Int} {n i : Nat} (h : TY w a y z n W) (u : UInt8) : TY w a y z n (W.setCell ⟨w.heap.size + 1, i, none⟩ (.int .u8 (u.toNat : Int))) := by
  obtain ⟨bs, hl, hb⟩ := h.bs
  refine ⟨only_setNew h.grow (by show w.heap.size ≤ w.heap.size + 1; omega) _, h.bt.far (p := ⟨w.heap.size + 1, i, none⟩) (by show w.heap.size ≠ w.heap.size + 1; omega) _, ⟨bs.set i u, by rw [List.length_set]; exact hl, byts_set hb u⟩, fun j hj => ?_⟩
  rw [World.frozen?_setCell]
  exact h.fr j hj
theorem ty_byte {w W : World} {a y z : Int} {n i : Nat} (h : TY w a y z n W) (hi : i < n) : ∃ x : Int, 0 ≤ x ∧ x ≤ 255 ∧ W.cell? ⟨w.heap.size + 1, i, none⟩ = some (.int .u8 x) := by
  obtain ⟨bs, hl, hb⟩ := h.bs
  have hlt : i < bs.length := by omega
  have := hb.cell (List.getElem?_eq_getElem hlt)
  rw [Nat.zero_add] at this
  exact ⟨_, by omega, by have := (bs[i]).toNat_lt; omega, this⟩
theorem ty_drew {w W : World} {a y z : Int} {n : Nat} (h : TY w a y z n W) : TY w a y z n W.drew := ⟨only_drew h.grow, h.bt.drew, by
  obtain ⟨bs, hl, hb⟩ := h.bs
  exact ⟨bs, hl, hb.keep rfl⟩, h.fr⟩

set_option maxRecDepth 100000 in
set_option maxHeartbeats 4000000 in
theorem turned_any (s : ByteArray) (hs : s.size ≤ 1000000) (a y z : Int) (ha0 : 0 ≤ a) (ha : a < 65536) (hz0 : -9223372036854775808 ≤ z) (hz : z ≤ 9223372036854775807) (w : World) :
    Calls Tryd.prog 11 #[.string s, .agg #[.int .u16 a, .int .u8 y, .int .i64 z]] w fun e w' => ∃ r : ByteArray, e = .returned (.string r) ∧ r.size ≤ s.size ∧ w.grownBy w' none := by
  have hcv := fun W : World => run_bytes_of_string (P := Tryd.prog) W 9 49 5 s Tryd.underlying9 Tryd.underlying49 Tryd.underlying5
  have HST := Lib.hid (ty_start w a y z s)
  go_enter Tryd.func11, Tryd.ntmps11
  go_upto_region 1 with fail
  go_cut [5] (fun v wx => ∃ cap : Nat, v = .slice (some ⟨w.heap.size + 1, 0, none⟩) s.size cap ∧ s.size ≤ cap ∧ TY w a y z s.size wx)
  case first =>
    go_wp2_with fail
    all_goals go_meet
    exact ⟨_, rfl, grownCap_ge _ s.size 0 5, HST.out _⟩
  case rest =>
    obtain ⟨cap, rfl, hcap, hT⟩ := hcut
    have hcap' : (s.size : Int) ≤ (cap : Int) := by omega
    clear hcv HST
    have hn63 : (s.size : Int) ≤ 1000000 := by omega
    have hn0 : (0 : Int) ≤ (s.size : Int) := by omega
    rcases Nat.eq_zero_or_pos s.size with h0 | h0
    · have t2 := hT.bt.cell 2
      have hnn : ¬ (0 < s.size) := by omega
      have hnz : ¬ ((0 : Int) < (s.size : Int)) := by omega
      obtain ⟨r, hr, hcv⟩ := ty_string hT s.size cap (Nat.le_refl _)
      rcases Int.lt_or_le z 0 with d | d
      · clear h0
        go_wp2_with fail
        go_ret
        exact ⟨r, rfl, by omega, hT.grow⟩
      · have d2 : (s.size : Int) ≤ z := by omega
        clear h0
        go_wp2_with fail
        go_ret
        exact ⟨r, rfl, by omega, hT.grow⟩
    · have hnp : (0 : Int) < (s.size : Int) := by omega
      obtain ⟨i, hi⟩ : ∃ i : Nat, (i : Int) = a % (s.size : Int) := ⟨(a % (s.size : Int)).toNat, by have := Int.emod_nonneg a (b := (s.size : Int)) (by omega); omega⟩
      have hin : i < s.size := by have := Int.emod_lt_of_pos a (b := (s.size : Int)) (by omega); omega
      have hr : (IntKind.i64.wrap a).tmod (s.size : Int) = (i : Int) := by
        have hw : IntKind.i64.wrap a = a := by rw [IntKind.wrap_i64]; omega
        rw [hw, Int.tmod_eq_emod_of_nonneg ha0, hi]
      have HI := Lib.hid hi
      have hne : ¬ ((s.size : Int) = 0) := by omega
      have hne2 : ¬ (s.size = 0) := by omega
      have hne3 : ((s.size : Int) == 0) = false := by rw [beq_eq_false_iff_ne]; exact hne
      have t0 := hT.bt.cell 0
      have t1 := hT.bt.cell 1
      have t2 := hT.bt.cell 2
      obtain ⟨x, hx0, hx1, hx⟩ := ty_byte hT hin
      have fi := hT.fr i hin
      have hii : (i : Int) < (s.size : Int) := by have := hin; omega
      obtain ⟨u, hu⟩ := xor_byte x y
      have HT := ty_set hT (i := i) u
      rw [← hu] at HT
      have HD := ty_drew HT
      have u2 := HT.bt.cell 2
      have v2 := HD.bt.cell 2
      have HG := Lib.hid HD.grow
      obtain ⟨r, hrs, hcv⟩ := ty_string HD s.size cap (Nat.le_refl _)
      rcases Int.lt_or_le z 0 with d | d
      · clear hi hT HT HD hu
        go_wp2_with fail
        go_region_with fail
        all_goals
          go_wp2_with fail
          go_ret
          exact ⟨r, rfl, by omega, HG.out⟩
      · rcases Int.lt_or_le z (s.size : Int) with d2 | d2
        · obtain ⟨m, hm⟩ : ∃ m : Nat, z.toNat = m := ⟨_, rfl⟩
          obtain ⟨r', hrs', hcv'⟩ := ty_string HD m cap (by omega)
          have hzc : z ≤ (cap : Int) := by omega
          have hzm : 0 ≤ z ∧ z ≤ (cap : Int) := ⟨d, hzc⟩
          clear hi hT HT HD hu
          go_wp2_with fail
          go_region_with fail
          all_goals
            go_wp2_with fail
            go_ret
            exact ⟨r', rfl, by omega, HG.out⟩
        · clear hi hT HT HD hu
          go_wp2_with fail
          go_region_with fail
          all_goals
            go_wp2_with fail
            go_ret
            exact ⟨r, rfl, by omega, HG.out⟩
end Go.Proofs.YtjjfofifooailaaDoor

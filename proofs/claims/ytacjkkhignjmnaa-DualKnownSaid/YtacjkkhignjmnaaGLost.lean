/- graph: firstLost: what it answers of any table. -/
import Derived.Test.YtacjkkhignjmnaaGRes
import Derived.Test.YtacjkkhignjmnaaGShp
import Derived.Scope
import Derived.WalkMore
namespace Go.Proofs.Ytacjkkhignjmnaa
open Go.RowKit Go.Shelf
attribute [local go_sem] Oper.semAt_some

theorem wpIn_scope_wide {n : Nat} {P : Program} {c : Code} {Q : Exit → Act → World → Prop} {a : Act} {w : World} (h : c.wpIn Fence.wide n P (Exit.noGoto Q) a w) : (Code.scope c).wpIn Fence.wide n P Q a w :=
  wpIn_wide.2 (wp_scope_straight (wpIn_wide.1 h))
theorem firstLost_skip {xs : List Nd} {n : Nat} : ∀ {k : Nat}, k ≤ n → (∀ j, j < k → lostB xs j = false) → firstLost xs n 0 = firstLost xs (n - k) k
  | 0, _, _ => rfl
  | k + 1, hk, h => by
    rw [firstLost_skip (k := k) (by omega) (fun j hj => h j (by omega))]
    obtain ⟨f, hf⟩ : ∃ f, n - k = f + 1 := ⟨n - k - 1, by omega⟩
    rw [hf, show n - (k + 1) = f by omega]
    simp [firstLost, h k (by omega)]
theorem firstLost_here {xs : List Nd} {n k : Nat} (hk : k < n) (h : ∀ j, j < k → lostB xs j = false) (hl : lostB xs k = true) : firstLost xs n 0 = (k : Int) := by
  rw [firstLost_skip (Nat.le_of_lt hk) h]
  obtain ⟨f, hf⟩ : ∃ f, n - k = f + 1 := ⟨n - k - 1, by omega⟩
  simp [hf, firstLost, hl]
theorem firstLost_none {xs : List Nd} {n : Nat} (h : ∀ j, j < n → lostB xs j = false) : firstLost xs n 0 = -1 := by
  rw [firstLost_skip (Nat.le_refl n) h, Nat.sub_self]; rfl

/-- What stands between two nodes: marks of the rounds that are over, what is known of nodes ahead. -/
structure LI (w : World) (xs : List Nd) (v : Value) (k : Nat) (Ds : List Nat) (W : World) : Prop where
  step : w.grownBy W none
  box : Blk W w.heap.size 22 #[v]
  apart : Ds.Nodup
  marks : ∀ D ∈ Ds, w.heap.size + 1 ≤ D ∧ W.heap[D]? = some (.deferred (some []))
  ahead : ∀ j, j < k → lostB xs j = false
theorem LI.below {w X Y : World} {xs : List Nd} {v : Value} {k B : Nat} {Ds : List Nat} (h : LI w xs v k Ds X) (hb : Below B X Y) (hw : w.heap.size < B) (hD : ∀ D ∈ Ds, D < B) : LI w xs v k Ds Y :=
  ⟨below_only hb h.step (by omega), h.box.below hb hw, h.apart, fun D hm => ⟨(h.marks D hm).1, (hb.block D (hD D hm)).trans (h.marks D hm).2⟩, h.ahead⟩
theorem LI.lt {w W : World} {xs : List Nd} {v : Value} {k : Nat} {Ds : List Nat} (h : LI w xs v k Ds W) : ∀ D ∈ Ds, D < W.heap.size := fun D hm => (Array.getElem?_eq_some_iff.1 (h.marks D hm).2).1
theorem LI.next {w W : World} {xs : List Nd} {v : Value} {k D : Nat} {Ds : List Nat} (h : LI w xs v k Ds W) (hD : ∀ D' ∈ Ds, D' < D) (hw : w.heap.size < D) (hK : W.heap[D]? = some (.deferred (some []))) (hl : lostB xs k = false) : LI w xs v (k + 1) (D :: Ds) W :=
  ⟨h.step, h.box, List.nodup_cons.2 ⟨fun hm => by have := hD D hm; omega, h.apart⟩, fun D' hm => by
    rcases List.mem_cons.1 hm with rfl | hm
    · exact ⟨by omega, hK⟩
    · exact h.marks D' hm, fun j hj => by
    by_cases e : j = k
    · subst e; exact hl
    · exact h.ahead j (by omega)⟩
def LIp (w : World) (xs : List Nd) (v : Value) (k : Nat) (Ds : List Nat) (pre : List Ed) (W : World) : Prop := LI w xs v k Ds W ∧ pre.all (isAl xs) = true
def LX (w : World) (xs : List Nd) (v : Value) (k : Nat) (Ds : List Nat) (c : Code) (pre : List Ed) (W : World) : Prop := c = .exit 1 ∧ LI w xs v k Ds W ∧ pre.all (isAl xs) = false

set_option maxRecDepth 100000 in
set_option maxHeartbeats 2000000 in
theorem firstLost_any (xs : List Nd) (v : Value) (w : World) (hT : Tbl w v xs) (hxs : xs.length ≤ 140737488351232) :
    Calls Try.prog 22 #[v] w fun e w' => e = .returned (.int .i64 (firstLost xs xs.length 0)) ∧ w.grownBy w' none := by
  refine (callsIn_wide (n := 3)).1 ?_
  refine callsIn_of_wp_marks Try.func22 rfl trivial ?_ rfl
  simp only [Try.ntmps22, List.size_toArray, List.length_cons, List.length_nil, Nat.reduceAdd, Nat.reduceSub, Array.replicate_succ, Array.replicate_zero, List.push_toArray, List.append_toArray, List.nil_append, List.cons_append]
  have HT := Lib.hid hT
  have HL := Lib.hid hxs
  obtain ⟨A, cap, rfl, hcl⟩ := hT
  clear hcl hxs
  gi_wp2_with fail
  refine wpIn_scope_wide ?_
  gi_wp2_with fail
  refine wpIn_label ?_
  gi_wp2_with fail
  have hW0 := Blk.new w 22 #[.slice A xs.length cap]
  refine wpIn_loop (fun a' W => ∃ (k : Nat) (Ds : List Nat) (u3 u4 u8 u9 u10 u11 u12 u13 u14 u15 u16 u17 u18 u19 u20 u21 u22 u23 : Value), k ≤ xs.length ∧ LI w xs (.slice A xs.length cap) k Ds W ∧ a' = { tmps := #[.slice A xs.length cap, .pointer (some ⟨w.heap.size, 0, none⟩), .int .i64 0, u3, u4, .slice A xs.length cap, .int .i64 (xs.length : Int), .int .i64 (k : Int), u8, u9, u10, u11, u12, u13, u14, u15, u16, u17, u18, u19, u20, u21, u22, u23], defers := Ds.map mark }) (fun a' _ => xs.length - (intOf (a'.tmps.getD 7 undef)).toNat)
    ⟨0, [], undef, undef, undef, undef, undef, undef, undef, undef, undef, undef, undef, undef, undef, undef, undef, undef, undef, undef, Nat.zero_le _, ⟨only_alloc (only_refl _ _) _, hW0, List.nodup_nil, (fun D h => by cases h), (fun j h => by omega)⟩, rfl⟩ ?_
  clear hW0
  rintro a' W ⟨k, Ds, u3, u4, u8, u9, u10, u11, u12, u13, u14, u15, u16, u17, u18, u19, u20, u21, u22, u23, hk, hI, rfl⟩
  have hl2 := HL.out
  have cb : W.cell? ⟨w.heap.size, 0, none⟩ = some (.slice A xs.length cap) := hI.box.cell 0
  have hbl := hI.box.lt
  have HI := Lib.hid hI
  clear hI
  by_cases hlt : k < xs.length
  · have hk0 : (0 : Int) ≤ (k : Int) := by omega
    have hk1 : (k : Int) < (xs.length : Int) := by omega
    gi_wp2_with (refine ⟨trivial, ?_⟩; gi_at_call 23; go_must (refine (callsIn_wide.2 (way_any _ _ _ ((k : Int), 0) _)).mono ?_; rintro e w5 ⟨rfl, rfl⟩))
    obtain ⟨W0, hW0⟩ : ∃ W0, ((W.alloc (.cells #[.slice A xs.length cap] 22)).alloc (.cells (edCells ((k : Int), 0)) 40)) = W0 := ⟨_, rfl⟩
    have hz : W0.heap.size = W.heap.size + 2 := by rw [← hW0]; simp
    have hb3 : Blk W0 W.heap.size 22 #[.slice A xs.length cap] := by rw [← hW0]; exact (Blk.new W _ _).alloc _
    have hb4 : Blk W0 (W.heap.size + 1) 40 (edCells ((k : Int), 0)) := by rw [← hW0]; exact blk_at (by simp) _ _
    have hbW : Below W.heap.size W W0 := by rw [← hW0]; exact ((Below.refl _ _).alloc (Nat.le_refl _) _).alloc (by simp) _
    have hI0 := HI.out.below hbW hbl HI.out.lt
    have hDs : ∀ D ∈ Ds, D < W0.heap.size := fun D hm => by have := HI.out.lt D hm; omega
    rw [hW0]
    clear hW0 hbW
    refine wpIn_rangeFunc_tells rfl (by omega) (gf := 32) (lb := #[.pointer (some ⟨W.heap.size + 1, 0, none⟩), .pointer (some ⟨W.heap.size, 0, none⟩)]) rfl trivial (enters_of Try.func32 (by kernel_rfl) rfl)
      (way_tells (W.heap.size + 1) W.heap.size xs (.slice A xs.length cap) ((k : Int), 0) HL.out) (fun h k => h.trans k) (fun _ _ _ o' h hc => .putObj o' h hc) KeepsCells.alloc (fun _ => rfl) ?t0 (LIp w xs (.slice A xs.length cap) k Ds) (LX w xs (.slice A xs.length cap) k Ds)
      (fun s X Y h hb => ⟨h.1.below hb (by omega) hDs, h.2⟩) (fun c s X Y h hb => ⟨h.1, h.2.1.below hb (by omega) hDs, h.2.2⟩) ⟨hI0, rfl⟩ 40 edCells
      (fun e Bx => { tmps := #[.slice A xs.length cap, .pointer (some ⟨w.heap.size, 0, none⟩), .int .i64 0, .int .i64 (k : Int), .pointer (some ⟨Bx, 0, none⟩), .slice A xs.length cap, .int .i64 (xs.length : Int), .int .i64 (k : Int), .bool true, .int .i64 (k : Int), .slice A xs.length cap, .int .i64 (k : Int), .agg #[.int .i64 (k : Int), .int .i64 0], .func (.func 32) #[] #[.pointer (some ⟨W.heap.size + 1, 0, none⟩), .pointer (some ⟨W.heap.size, 0, none⟩)], edV e, u15, u16, u17, u18, u19, u20, u21, u22, u23], defers := [] }) ?assign ?body ?done ?stop
    case t0 =>
      intro W2 hW
      exact ⟨hb4.below hW (by omega), hb3.below hW (by omega), (HT.out.keep (.grown hI0.step)).keep (.below hW)⟩
    case assign =>
      intro l e W2 K hK
      gi_wp2
      exact hK
    case body =>
      rintro l pre ⟨a, o⟩ W2 Bx hpre hBx hI hbx
      obtain ⟨x, hx⟩ := wayL_mem (hpre.subset (List.mem_append_right _ (List.mem_singleton_self _)))
      obtain ⟨hi0, hi1, hix⟩ := nodeAt_some hx
      dsimp only at hx hi0 hi1 hix
      obtain ⟨i, rfl⟩ : ∃ i : Nat, a = i := ⟨a.toNat, by omega⟩
      rw [show ((i : Int)).toNat = i by simp] at hix
      have c0 : W2.cell? ⟨Bx, 0, none⟩ = some (.int .i64 (i : Int)) := hbx.cell 0
      have c1 : W2.cell? ⟨Bx, 1, none⟩ = some (.int .i64 o) := hbx.cell 1
      have cn : W2.cell? ⟨w.heap.size, 0, none⟩ = some (.slice A xs.length cap) := hI.1.box.cell 0
      have hal := isAl_at (xs := xs) (t := ((i : Int), o)) hx
      have hT3 := HT.out.keep (Keeps.grown hI.1.step)
      have HI' := Lib.hid hI
      clear hI hpre hx hbx
      obtain ⟨A', c', hA, hcl⟩ := hT3
      obtain ⟨bb, off, hAb, hcl⟩ := hcl (by intro e0; rw [e0] at hi1; simp at hi1; omega)
      obtain ⟨v', _, n0, _⟩ := hcl i x hix
      obtain ⟨rfl, rfl⟩ : A = A' ∧ cap = c' := by simpa using hA
      subst hAb
      clear hA hcl hix
      by_cases hk : x.kind = 5
      · rw [hk] at n0
        have HS : Hid (isAl xs ((i : Int), o) = true) := hal.trans (by simp [hk])
        clear hal hk
        gi_wp2_with fail
        exact ⟨KeepsFrom.refl _ _, .refl _, HI'.out.1, by simp [HI'.out.2, HS.out]⟩
      · have HS : Hid (isAl xs ((i : Int), o) = false) := hal.trans (by simp [hk])
        clear hal
        gi_wp2_with fail
        exact ⟨KeepsFrom.refl _ _, rfl, HI'.out.1, by simp [HS.out]⟩
    case done =>
      rintro D W2 hD ⟨h1, h2⟩ hK
      have HS : Hid (firstLost xs xs.length 0 = (k : Int)) := firstLost_here hlt h1.ahead h2
      have H1 := Lib.hid h1
      have HK := Lib.hid hK
      clear h1 h2 hK
      gi_wp2_with fail
      refine marks_ret (B := w.heap.size + 1) (D :: Ds) _ (List.nodup_cons.2 ⟨fun hm => by have := hDs D hm; omega, H1.out.apart⟩) (fun D' hm => ?_) fun W' hW' => ?_
      · rcases List.mem_cons.1 hm with rfl | hm
        · exact ⟨by omega, HK.out⟩
        · exact H1.out.marks D' hm
      · exact ⟨_, results_tmp rfl _ _ _, by rw [HS.out]; rfl, hW'.grown H1.out.step (by omega)⟩
    case stop =>
      rintro D c pre W2 hD hpre hne ⟨rfl, h1, h2⟩ hK
      have hN : LI w xs (.slice A xs.length cap) (k + 1) (D :: Ds) W2 := h1.next (fun D' hm => by have := hDs D' hm; omega) (by omega) hK (all_prefix hpre h2)
      have HN := Lib.hid hN
      clear hN h1 h2 hK hpre
      gi_wp2_with fail
      exact ⟨⟨k + 1, D :: Ds, _, _, _, _, _, _, _, _, _, _, _, _, _, _, _, _, _, _, by omega, HN.out, rfl⟩, by simp [intOf]; omega⟩
  · have hke : k = xs.length := by omega
    have hge : (xs.length : Int) ≤ (k : Int) := by omega
    have HS : Hid (firstLost xs xs.length 0 = -1) := firstLost_none (by rw [← hke]; exact HI.out.ahead)
    clear hk hlt hke
    gi_wp2_with fail
    refine marks_ret (B := w.heap.size + 1) Ds _ HI.out.apart HI.out.marks fun W' hW' => ?_
    exact ⟨_, results_tmp rfl _ _ _, by rw [HS.out]; rfl, hW'.grown HI.out.step (by omega)⟩
end Go.Proofs.Ytacjkkhignjmnaa

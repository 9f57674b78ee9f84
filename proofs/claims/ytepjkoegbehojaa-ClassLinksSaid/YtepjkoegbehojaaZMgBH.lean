/- Texts joined for the claim's sake: CRnk, CEql. -/
import Derived.Test.YtepjkoegbehojaaZCRfn
import Derived.Test.YtepjkoegbehojaaZMgAJ
import Derived.Test.YtepjkoegbehojaaZMgAK
/- Rounds of parting, told apart by the numbers that stand. No program. -/
namespace Go.Proofs.Ytepjkoegbehojaa
open Go.RowKit

section
variable {L : List Nd}
theorem ofK_back (hL : TW L) {k K : Nat} (h : k < K) (he : ofK L K = ofK L k) : ofK L (k + 1) = ofK L k := by
  have h1 : ∀ a b, liveB L a = true → liveB L b = true → apK L (k + 1) a b = apK L k a b := fun a b ha hb => by
    have e1 := ofK_like hL (k := k) ha hb
    have e2 := ofK_like hL (k := K) ha hb
    rw [he] at e2
    have e3 := e1.symm.trans e2
    cases e : apK L k a b with
    | true => exact aptK_le (Nat.le_succ k) e
    | false =>
      have e4 := e3.1 e
      cases e5 : apK L (k + 1) a b with
      | false => rfl
      | true =>
        have : apK L K a b = true := aptK_le h e5
        rw [e4] at this; cases this
  unfold ofK
  rw [(clsL_congr (D := fun a => liveB L a = true) h1 _ _ rfl (roots_live hL)).1]
theorem mapN_inj {l m : List Nat} (h : l.map Int.ofNat = m.map Int.ofNat) : l = m := (List.map_inj_right (f := Int.ofNat) (fun _ _ e => Int.ofNat.inj e)).1 h
/-- The last round below M that has these numbers. -/
def rankL (L : List Nd) (zs : List Int) : Nat → Nat
  | 0 => 0
  | K + 1 => if (ofK L K).map Int.ofNat = zs then K else rankL L zs K
theorem rank_at (hL : TW L) {k : Nat} (h : ofK L (k + 1) ≠ ofK L k) : ∀ M, k < M → rankL L ((ofK L k).map Int.ofNat) M = k
  | 0, hk => by omega
  | K + 1, hk => by
    unfold rankL
    by_cases e : (ofK L K).map Int.ofNat = (ofK L k).map Int.ofNat
    · rw [if_pos e]
      rcases Nat.lt_or_ge k K with h1 | h1
      · exact absurd (ofK_back hL h1 (mapN_inj e)) h
      · omega
    · rw [if_neg e]
      have : K ≠ k := fun e' => e (by rw [e'])
      exact rank_at hL h K (by omega)
theorem rank_ge {k : Nat} : ∀ M, k < M → k ≤ rankL L ((ofK L k).map Int.ofNat) M
  | 0, hk => by omega
  | K + 1, hk => by
    unfold rankL
    by_cases e : (ofK L K).map Int.ofNat = (ofK L k).map Int.ofNat
    · rw [if_pos e]; omega
    · rw [if_neg e]
      have : K ≠ k := fun e' => e (by rw [e'])
      exact rank_ge K (by omega)
end
/-- The ints that a slice holds. -/
def decI (W : World) (v : Value) : List Int := match v with
  | .slice (some a) n _ => (List.range n).map fun i => (match W.cell? ⟨a.block, a.off + i, none⟩ with | some (.int _ z) => z | _ => 0)
  | _ => []
theorem dec_ints {W : World} {v : Value} {zs : List Int} (h : Ints W v zs) : decI W v = zs := by
  obtain ⟨A, c, rfl, _, h2⟩ := h
  by_cases hn : zs = []
  · subst hn
    unfold decI
    cases A <;> rfl
  · obtain ⟨b, off, rfl, h3⟩ := h2 hn
    unfold decI
    dsimp only
    refine List.ext_getElem (by simp) fun i h4 h5 => ?_
    rw [List.getElem_map, List.getElem_range, h3 i zs[i] (List.getElem?_eq_getElem h5)]
/-! ### A round, node by node -/
def ptL (L : List Nd) (k q : Nat) : List Nat × List Nat := clsL (apK L (k + 1)) ((rootsL L).take q)
def ptK (L : List Nd) (k q : Nat) : List Nd := (ptL L k q).1.map (knN L (ofK L k))
section
variable {L : List Nd}
theorem pt_live (hL : TW L) (k q : Nat) : ∀ y ∈ (ptL L k q).1, liveB L y = true :=
  (clsL_congr (D := fun a => liveB L a = true) (A := apK L (k + 1)) (B := apK L (k + 1)) (fun _ _ _ _ => rfl) _ _ rfl (fun x hx => roots_live hL x (List.mem_of_mem_take hx))).2
theorem pt_cls (hL : TW L) (k q : Nat) : Cls (fun a b => apK L (k + 1) a b = false) ((rootsL L).take q) (ptL L k q).1 (ptL L k q).2 :=
  cls_of (D := fun a => liveB L a = true) (apK_alike (k + 1) _) _ _ rfl (fun x hx => roots_live hL x (List.mem_of_mem_take hx))
theorem pt_len (hL : TW L) {k q : Nat} (hq : q ≤ L.length) : (ptL L k q).2.length = q := by
  rw [(pt_cls hL k q).len, List.length_take, roots_len]; omega
theorem pt_succ {k q : Nat} (hq : q < L.length) : ptL L k (q + 1) = clsStep (apK L (k + 1)) (ptL L k q) (rootL L q) := by
  unfold ptL
  rw [List.take_add_one, root_get L hq]
  exact clsL_snoc _ _ _
theorem pt_new (hL : TW L) {k q : Nat} (hq : q < L.length) (h : knN L (ofK L k) (rootL L q) ∉ ptK L k q) : ptL L k (q + 1) = ((ptL L k q).1 ++ [rootL L q], (ptL L k q).2 ++ [(ptL L k q).1.length]) := by
  rw [pt_succ hq]
  refine step_new (fs := (ptL L k q).1) (os := (ptL L k q).2) fun c y hy => ?_
  have hm := List.mem_of_getElem? hy
  have hr : liveB L (rootL L q) = true := roots_live hL _ (List.mem_of_getElem? (root_get L hq))
  cases e : apK L (k + 1) y (rootL L q) with
  | true => rfl
  | false =>
    have := (kn_iff hL (pt_live hL k q y hm) hr).2 e
    exact absurd (List.mem_map.2 ⟨y, hm, this⟩) h
theorem pt_old (hL : TW L) {k q c : Nat} (hq : q < L.length) (h : (ptK L k q)[c]? = some (knN L (ofK L k) (rootL L q))) : ptL L k (q + 1) = ((ptL L k q).1, (ptL L k q).2 ++ [c]) := by
  rw [pt_succ hq]
  have hr : liveB L (rootL L q) = true := roots_live hL _ (List.mem_of_getElem? (root_get L hq))
  unfold ptK at h
  rw [List.getElem?_map] at h
  obtain ⟨y, hy, he⟩ := Option.map_eq_some_iff.1 h
  have hyl := pt_live hL k q y (List.mem_of_getElem? hy)
  have h1 := (kn_iff hL hyl hr).1 he
  refine step_old (fs := (ptL L k q).1) (os := (ptL L k q).2) hy h1 fun d z hz hA => ?_
  exact (pt_cls hL k q).apart d c z y hz hy (likeK_trans (hd_len L) hA (likeK_symm h1))
theorem pt_all (L : List Nd) (k : Nat) : ptL L k L.length = (fsK L (k + 1), ofK L (k + 1)) := by
  unfold ptL fsK ofK
  rw [List.take_of_length_le (by rw [roots_len]; exact Nat.le_refl _)]
theorem pt_few (L : List Nd) (k q : Nat) : (ptK L k q).length ≤ q := by
  unfold ptK ptL
  rw [List.length_map]
  have h := cls_le (apK L (k + 1)) ((rootsL L).take q) ([], [])
  rw [List.length_nil, Nat.zero_add, List.length_take] at h
  exact Nat.le_trans h (Nat.min_le_left _ _)
theorem ofK_lt (hL : TW L) (k m : Nat) : (ofK L k).getD m 0 ≤ L.length := by
  rw [List.getD_eq_getElem?_getD]
  cases e : (ofK L k)[m]? with
  | none => exact Nat.zero_le _
  | some c =>
    have h := (clsK hL k).lt e
    have h2 := cls_le (apK L k) (rootsL L) ([], [])
    rw [List.length_nil, Nat.zero_add, roots_len] at h2
    have h3 : (fsK L k).length ≤ L.length := h2
    show c ≤ _
    omega
end
end Go.Proofs.Ytepjkoegbehojaa

/- slices.Equal of two lists of ints of one length. -/
namespace Go.Proofs.Ytepjkoegbehojaa
open Go.RowKit Go.Shelf

set_option maxHeartbeats 800000 in
theorem cequal_any (zs ys : List Int) (v u : Value) (w : World) (hE : Ints w v zs) (hU : Ints w u ys) (hlen : zs.length = ys.length) (hmx : zs.length ≤ 1000000) :
    Calls Try.prog 48 #[v, u] w fun e w' => e = .returned (.bool (decide (zs = ys))) ∧ w.grownBy w' none := by
  obtain ⟨A, c, rfl, hl, hc⟩ := hE
  obtain ⟨B, d, rfl, _, hd⟩ := hU
  have HC := Lib.hid hc
  have HD := Lib.hid hd
  have HLE := Lib.hid hlen
  have hmI : (zs.length : Int) ≤ 1000000 := by omega
  rw [← hlen]
  clear hc hd hlen hl
  go_enter Try.func48, Try.ntmps48
  go_wp2_with fail
  go_loopw [13] (fun i wr => ∃ k : Nat, k ≤ zs.length ∧ i = .int .i64 (k : Int) ∧ zs.take k = ys.take k ∧ w.grownBy wr none) (fun i _ => zs.length - (intOf i).toNat)
  case atStart => exact ⟨0, Nat.zero_le _, rfl, rfl, only_refl _ _⟩
  case round =>
    obtain ⟨k, hk, rfl, htk, hg⟩ := hrel
    have HG := Lib.hid hg
    have HTK := Lib.hid htk
    clear hg htk
    by_cases hlt : k < zs.length
    · obtain ⟨z, hz⟩ : ∃ z, zs[k]? = some z := ⟨_, List.getElem?_eq_getElem hlt⟩
      obtain ⟨y, hy⟩ : ∃ y, ys[k]? = some y := ⟨_, List.getElem?_eq_getElem (by rw [← HLE.out]; exact hlt)⟩
      obtain ⟨bb, off, rfl, hce⟩ := HC.out (by intro e0; rw [e0] at hlt; simp at hlt)
      obtain ⟨bu, ofu, rfl, hde⟩ := HD.out (by intro e0; rw [e0] at hy; simp at hy)
      have g0 := Keeps.grown HG.out _ _ (hce k _ hz)
      have g1 := Keeps.grown HG.out _ _ (hde k _ hy)
      have HZ := Lib.hid hz
      have HY := Lib.hid hy
      have hk0 : (0 : Int) ≤ (k : Int) := by omega
      have hk1 : (k : Int) < (zs.length : Int) := by omega
      clear hce hde hz hy
      by_cases hzy : z = y
      · have HT2 : Hid (zs.take (k + 1) = ys.take (k + 1)) := Lib.hid (by rw [List.take_add_one, List.take_add_one, HZ.out, HY.out, HTK.out, hzy])
        subst hzy
        go_upto_region 6 with fail
        go_quiet (fail)
        go_wp2_with fail
        go_roundw
        case rel => exact ⟨k + 1, by omega, by go_num, HT2.out, only_drewN HG.out _⟩
        case measure => simp [intOf]; omega
      · have hzd : decide (z = y) = false := decide_eq_false hzy
        have hzb : (z == y) = false := by simp [hzy]
        have hzn : (z != y) = true := by simp [hzy]
        have HNE : Hid (decide (zs = ys) = false) := Lib.hid (decide_eq_false fun e => by
          have h1 := HZ.out
          rw [e, HY.out] at h1
          exact hzy (Option.some.inj h1).symm)
        clear hzy
        go_upto_region 6 with fail
        go_quiet (fail)
        go_wp2_with fail
        go_ret
        exact ⟨by rw [HNE.out]; rfl, only_drewN HG.out _⟩
    · have hge : (zs.length : Int) ≤ (k : Int) := by omega
      have HEQ : Hid (decide (zs = ys) = true) := Lib.hid (decide_eq_true (by
        have := HTK.out
        rw [List.take_of_length_le (by omega), List.take_of_length_le (by have := HLE.out; omega)] at this
        exact this))
      clear hlt hk
      go_wp2_with fail
      go_ret
      exact ⟨by rw [HEQ.out]; rfl, HG.out⟩
end Go.Proofs.Ytepjkoegbehojaa

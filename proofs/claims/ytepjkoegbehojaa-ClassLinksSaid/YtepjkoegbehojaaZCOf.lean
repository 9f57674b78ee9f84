/- The document's own Of of layer 7. -/
import Derived.Test.YtepjkoegbehojaaZMgAQ
namespace Go.Proofs.Ytepjkoegbehojaa
open Go.RowKit Go.Shelf

theorem of_results {tmps : Array Value} {W : World} {g : Nat} {a b c e : Value} (hp : tmps.getD 2 undef = .pointer (some ⟨g, 0, none⟩)) (he : tmps.getD 3 undef = e) (hb : Blk W g 27 #[a, b, c]) (h1 : ∃ A l k, a = .slice A l k) (h2 : ∃ A l k, b = .slice A l k) (h3 : ∃ A l k, c = .slice A l k) :
    (results Try.f10 tmps).run Try.prog W = .ok (.tuple #[.agg #[a, b, c], e]) W := by
  obtain ⟨_, _, _, rfl⟩ := h1
  obtain ⟨_, _, _, rfl⟩ := h2
  obtain ⟨_, _, _, rfl⟩ := h3
  have c0 := hb.cell 0
  have c1 := hb.cell 1
  have c2 := hb.cell 2
  have hp' : tmps[2]?.getD undef = .pointer (some ⟨g, 0, none⟩) := by simpa using hp
  have he' : tmps[3]?.getD undef = e := by simpa using he
  simp [results, Try.results10, hp', he', go_sem, c0, c1, c2]
theorem clsT_ok {xs : List Nd} (h : (orderL xs).2 = 0) : clsT xs = ⟨(numL (twoL xs)).1.map (clsN (twoL xs) xs.length (numL (twoL xs)).2), (numL (twoL xs)).2.map Int.ofNat, (List.range (twoL xs).length).map (prioL (twoL xs))⟩ := by unfold clsT; rw [if_pos h]
theorem clsT_not {xs : List Nd} (h : (orderL xs).2 ≠ 0) : clsT xs = ⟨[], [], []⟩ := by unfold clsT; rw [if_neg h]
theorem MatO.free {base gm N k : Nat} {W : World} {rb : List Nat} {M : Nat → Nat → Bool} (h : MatO base W gm rb N M) (hk : rb.length = k) (hl : k < N) : W.cell? ⟨gm, k, none⟩ = some (.slice none 0 0) ∧ W.frozen? ⟨gm, k, none⟩ = false ∧ gm < W.heap.size := by
  refine ⟨?_, h.bm.frozen k, h.bm.lt⟩
  subst hk
  rw [h.bm.cell, List.getElem?_toArray, List.getElem?_append_right (by rw [List.length_map]; exact Nat.le_refl _), List.length_map, Nat.sub_self, List.getElem?_replicate, if_pos (by omega)]
theorem mat_next {B gm N k : Nat} {W W4 : World} {rb : List Nat} (hrb : rb.length = k) (hl : k < N) (hm : MatO B W gm rb N (fun _ _ => false)) (hg : W.grownBy W4 none) (hb : Blk W4 W.heap.size 4 (Array.replicate N (.bool false))) (hB : B ≤ W.heap.size) :
    MatO B (W4.setCell ⟨gm, k, none⟩ (.slice (some ⟨W.heap.size, 0, none⟩) N N)) gm (rb ++ [W.heap.size]) N (fun _ _ => false) := by
  subst hrb
  refine (hm.kept hg).add hb hB (fun hin => ?_) hl
  obtain ⟨i, hi⟩ := List.mem_iff_getElem?.1 hin
  have := (hm.row i _ hi).2.lt
  omega
def boolN : Value → Nat
  | .bool true => 1
  | _ => 0
theorem MatO.row_at {base gm N a c r : Nat} {W : World} {rb : List Nat} {M : Nat → Nat → Bool} (h : MatO base W gm rb N M) (hr : rb[a]? = some r) (hc : c < N) : W.cell? ⟨gm, a, none⟩ = some (.slice (some ⟨r, 0, none⟩) N N) ∧ W.cell? ⟨r, c, none⟩ = some (.bool (M a c)) ∧ W.frozen? ⟨r, c, none⟩ = false ∧ r < W.heap.size ∧ gm < W.heap.size :=
  ⟨h.cell hr, by rw [(h.row a r hr).2.cell]; exact rowA_at hc, (h.row a r hr).2.frozen c, (h.row a r hr).2.lt, h.bm.lt⟩
theorem runlike_is {L : List Nd} (hL : TW L) (hl : L.length ≤ 128) {v mv : Value} {M : Nat → Nat → Bool} {a b : Nat} {x y : Nd} (hx : L[a]? = some x) (hy : L[b]? = some y) {u : Bool} (hu : unl (hdL L) (scL L) M a b = u) {w : World} (hT : Tbl w v L) (hM : MatV w mv L.length M) :
    Calls Try.prog 30 #[v, mv, .int .i64 (a : Int), .int .i64 (b : Int)] w fun en w' => en = .returned (.bool u) ∧ w.grownBy w' none := by
  have := runlike_any L hL hl v mv M a b x y hx hy w hT hM
  rw [hu] at this
  exact this
theorem ints_atN {W : World} {A : Option Addr} {c : Nat} {fs : List Nat} (h : Ints W (.slice A fs.length c) (fs.map Int.ofNat)) {j f : Nat} (hf : fs[j]? = some f) : ∃ b off, A = some ⟨b, off, none⟩ ∧ W.cell? ⟨b, off + j, none⟩ = some (.int .i64 (f : Int)) :=
  ints_at (zs := fs.map Int.ofNat) (A := A) (c := c) (by rw [List.length_map]; exact h) (by rw [List.getElem?_map, hf]; rfl)
theorem mat_at {W : World} {gm N : Nat} {M : Nat → Nat → Bool} (h : MatV W (.slice (some ⟨gm, 0, none⟩) N N) N M) {f m : Nat} (hf : f < N) (hm : m < N) : ∃ ba oa ca, W.cell? ⟨gm, f, none⟩ = some (.slice (some ⟨ba, oa, none⟩) N ca) ∧ W.cell? ⟨ba, oa + m, none⟩ = some (.bool (M f m)) := by
  obtain ⟨b, off, cap, h1, h2⟩ := h
  obtain ⟨⟨rfl, rfl⟩, rfl⟩ : (gm = b ∧ 0 = off) ∧ N = cap := by simpa using h1
  obtain ⟨ba, oa, ca, h3, h4⟩ := h2 f hf
  rw [Nat.zero_add] at h3
  exact ⟨ba, oa, ca, h3, h4 m hm⟩
theorem mat_kept {base gm N : Nat} {Wt W W' : World} {rb : List Nat} {M : Nat → Nat → Bool} (h : Wt.grownBy W none ∧ MatO base W gm rb N M) (hg : W.grownBy W' none) : Wt.grownBy W' none ∧ MatO base W' gm rb N M := ⟨only_trans h.1 hg, h.2.kept hg⟩

set_option maxRecDepth 100000 in
set_option maxHeartbeats 4000000 in
theorem rOfO_any (xs : List Nd) (v : Value) (w : World) (hT : Tbl w v xs) (hxs : xs.length ≤ 1000) :
    Calls Try.prog 10 #[v] w fun e w' => (∃ tv, e = .returned (.tuple #[tv, .int .i64 (orderL xs).2]) ∧ TabO w' tv (clsT xs)) ∧ w.grownBy w' none := by
  have HT := Lib.hid hT
  have HXS := Lib.hid hxs
  obtain ⟨A, cap, rfl, hcl⟩ := hT
  clear hcl hxs
  obtain ⟨⟨oa, oe⟩, ho⟩ : ∃ z, orderL xs = z := ⟨_, rfl⟩
  have HO := Lib.hid ho
  by_cases h0 : oe = 0
  · subst h0
    have hO : (orderL xs).2 = 0 := by rw [ho]
    have hcT := clsT_ok hO
    rw [ho]
    have hK := (ord_of hO).1
    have hCh : (checkL xs).2 = 0 := by rw [hK.check]
    have hN : xs.length ≤ 64 ∧ 1 ≤ xs.length := ⟨hK.le, hK.pos⟩
    obtain ⟨L, hL⟩ : ∃ L, twoL xs = L := ⟨_, rfl⟩
    have hLn : L.length = 2 * xs.length := by rw [← hL]; exact twoL_len xs
    have HTW : Hid (TW L) := Lib.hid (by rw [← hL]; exact tw_two hK)
    have HTL : Hid (tableL xs = L) := Lib.hid (by rw [tableL_ok hCh]; exact hL)
    rw [hL] at hcT
    have HCT := Lib.hid hcT
    have HN : Hid ((1 ≤ xs.length ∧ xs.length ≤ 64) ∧ L.length = 2 * xs.length) := Lib.hid ⟨⟨hN.2, hN.1⟩, hLn⟩
    have hLI : (L.length : Int) ≤ 128 := by omega
    have hxI : (xs.length : Int) ≤ 64 := by omega
    clear ho hO hK hCh hN hL hLn hcT
    go_enter Try.func10, Try.ntmps10
    go_upto_region 2 with (go_at_call 28; go_must (refine (rCheck_any xs _ _ (HT.out.keep (.grown (only_alloc (only_refl _ _) _))) HXS.out).mono ?_; rw [HO.out]; rintro e W1 ⟨rfl, hg1⟩; have HG1 := Lib.hid (only_trans (only_alloc (only_refl w none) _) hg1); have HB1 := Lib.hid ((Blk.new w 27 #[.slice none 0 0, .slice none 0 0, .slice none 0 0]).kept hg1); clear hg1))
    go_upto_region 5 with (go_at_call 29; go_must (refine (rtable_any xs _ _ (HT.out.keep (.grown HG1.out)) HXS.out).mono ?_; rintro e W2 ⟨⟨u, ns, rfl, hot, hns⟩, hg2⟩; have htb := hot.tbl; rw [hns, HTL.out] at htb; have HTB := Lib.hid htb; obtain ⟨A6, c6, rfl, _⟩ := htb; have HG2 := Lib.hid (only_trans HG1.out hg2); have HB2 := Lib.hid (HB1.out.kept hg2); clear hot hns hg2))
    go_upto_region 7 with (refine wpList_make_rows rfl (.tmp 35) (.tmp 35) rfl rfl rfl (n := L.length) rfl (by omega) ?_; intro W3 hb3 hg3 hs3; have HM3 := Lib.hid (MatO.start (Nat.le_refl _) hb3 (fun _ _ => false)); have HG3 := Lib.hid hg3; have HS3 := Lib.hid hs3; clear hb3 hg3 hs3)
    go_loopw [8] (fun i W => ∃ k : Nat, k ≤ L.length ∧ i = .int .i64 (k : Int) ∧ ∃ rb : List Nat, rb.length = k ∧ W2.grownBy W none ∧ MatO W2.heap.size W W2.heap.size rb L.length (fun _ _ => false)) (fun i _ => 200 - (intOf i).toNat)
    case atStart => exact ⟨0, Nat.zero_le _, rfl, [], rfl, HG3.out, HM3.out⟩
    case round =>
      obtain ⟨k, hk, rfl, rb, hrb, hgk, hmk⟩ := hrel
      have HGK := Lib.hid hgk
      have HMK := Lib.hid hmk
      have HRB := Lib.hid hrb
      clear HM3 HG3 HS3 hgk hrb
      by_cases hlt : k < L.length
      · have hkI : (k : Int) < (L.length : Int) := by omega
        have hk0 : (0 : Int) ≤ (k : Int) := by omega
        clear hmk
        go_wp2_with (refine wpList_make_bools rfl (.tmp 46) (.tmp 46) rfl rfl rfl (n := L.length) rfl (by omega) ?_; intro W4 hb4 hg4 hs4; obtain ⟨c4, f4, l4⟩ := (HMK.out.kept hg4).free HRB.out hlt; have HB4 := Lib.hid (And.intro hb4 hs4); have HG4 := Lib.hid hg4; clear hb4 hg4 hs4)
        go_roundw
        case rel => exact ⟨k + 1, by omega, by go_num, rb ++ [wr.heap.size], by rw [List.length_append, HRB.out]; rfl, only_setNew (only_trans HGK.out HG4.out) (Nat.le_refl _) _, mat_next HRB.out hlt HMK.out HG4.out HB4.out.1 HGK.out.size⟩
        case measure => simp [intOf]; omega
      · obtain rfl : k = L.length := by omega
        have hkI : (L.length : Int) ≤ (L.length : Int) := Int.le_refl _
        clear hlt hk hmk
        go_wp2_with fail
        go_loopw [9] (fun m W => ∃ (M : Nat → Nat → Bool) (b : Bool), m = .bool b ∧ Snd L M ∧ (b = false → Clo L M) ∧ W2.grownBy W none ∧ MatO W2.heap.size W W2.heap.size rb L.length M) (fun m W => 2 * falses W W2.heap.size L.length + boolN m)
        case atStart => exact ⟨_, true, rfl, snd_0 L, fun h => (by cases h), HGK.out, HMK.out⟩
        case round =>
          clear HGK HMK
          obtain ⟨M0, more, rfl, hs0, hc0, hg0, hm0⟩ := hrel
          have HG0 := Lib.hid hg0
          have HM0 := Lib.hid hm0
          have HS0 := Lib.hid hs0
          have HF0 := Lib.hid (hm0.falses HRB.out)
          clear hs0 hg0 hm0
          cases more
          · have HMAT := Lib.hid (HM0.out.mat HRB.out)
            have HEQ : Hid (∀ {x y : Nat}, liveB L x = true → liveB L y = true → M0 x y = apL L x y) := Lib.hid (fun hx hy => apL_eq HTW.out HS0.out (hc0 rfl) hx hy)
            have HG3 := Lib.hid (only_trans HG2.out HG0.out)
            have HTB3 := Lib.hid (HTB.out.keep (.grown HG0.out))
            have HB3 := Lib.hid (HB2.out.kept HG0.out)
            clear hc0 HM0 HS0 HF0 HG0 HTB HB2 HG2 HB1 HG1 HRB
            generalize wr = W3 at *
            go_wp2_with fail
            go_loopw [13, 14] (fun f i W => ∃ (k : Nat) (vo vp : Value) (fs os : List Nat), i = .int .i64 (k : Int) ∧ k ≤ L.length ∧ Nm L k fs os ∧ N3 W3 (.slice none 0 0) f vo vp fs os ((List.range k).map (prioL L)) W) (fun _ i _ => 200 - (intOf i).toNat)
            case atStart => exact ⟨0, .slice none 0 0, .slice none 0 0, [], [], rfl, Nat.zero_le _, Nm.start L, only_alloc (only_refl _ _) _, Blk.new _ _ _, IOwn.nil_ _ _, IOwn.nil_ _ _, IOwn.nil_ _ _, fun _ h => (by cases h), fun _ h => (by cases h), fun _ h => (by cases h)⟩
            case round =>
              obtain ⟨k, vo, vp, fs, os, rfl, hk, hnm, hn3⟩ := hrel
              obtain ⟨A13, c13, h13⟩ := hn3.of.len
              rw [List.length_map] at h13
              subst h13
              have HNM := Lib.hid hnm
              have HN3 := Lib.hid hn3
              clear hnm hn3
              by_cases hlt : k < L.length
              · obtain ⟨m, y, s, hy, h5, s0, s1, hr⟩ := HTW.out.root (k : Int) (by omega) (by omega)
                have hres := hr 0 (by omega) (by omega)
                rw [Int.add_zero] at hres
                have hroot : rootL L k = m := by unfold rootL; rw [hres]; rfl
                have hprio : prioL L k = if y.kind = 0 then 0 else y.prio + s := by unfold prioL; rw [hroot, hy, hres]
                have HRES := Lib.hid hres
                have HY := Lib.hid hy
                have HV : Hid (liveB L m = true) := Lib.hid (live_of hy h5)
                have HRP := Lib.hid (And.intro hroot hprio)
                have HK := Lib.hid hlt
                have hkI : (k : Int) < (L.length : Int) := by omega
                have hk0 : (0 : Int) ≤ (k : Int) := by omega
                have hyp := (HTW.out.good y (List.mem_of_getElem? hy)).2.1
                obtain ⟨p0, p1⟩ := hyp
                have hml : m < L.length := (List.getElem?_eq_some_iff.1 hy).1
                clear hr hres hroot hprio hy h5 hlt
                go_upto_region 28 with (go_at_call 31; go_must (refine (rres_is HRES.out (HTB3.out.keep (.grown HN3.out.gr)) (by have := HN.out; omega)).mono ?_; rintro e W4 ⟨rfl, hg4⟩; have HNX := Lib.hid (NX.start HN3.out hg4 (m : Int) s); clear hg4))
                go_wp2_with fail
                go_loopw [16, 17] (fun c q W => ∃ j : Nat, q = .int .i64 (j : Int) ∧ j ≤ fs.length ∧ c = .int .i64 (lastLike (apL L) fs m j) ∧ NX W3 (.slice none 0 0) (.slice A13 fs.length c13) vo vp fs os ((List.range k).map (prioL L)) W4.heap.size (m : Int) s W) (fun _ q _ => 200 - (intOf q).toNat)
                case atStart => exact ⟨0, rfl, Nat.zero_le _, rfl, HNX.out⟩
                case round =>
                  clear HNX
                  obtain ⟨j, rfl, hj, rfl, hnx⟩ := hrel
                  have HNX := Lib.hid hnx
                  by_cases hlj : j < fs.length
                  · obtain ⟨f, hf⟩ : ∃ f, fs[j]? = some f := ⟨_, List.getElem?_eq_getElem hlj⟩
                    have hfl : liveB L f = true := HNM.out.live f (List.mem_of_getElem? hf)
                    have hfN := live_lt hfl
                    have hfsI : (fs.length : Int) ≤ 128 := by have := HNM.out.le; omega
                    obtain ⟨b13, o13, rfl, d0⟩ := ints_atN (hnx.n.of.ints (by rw [List.length_map]; omega)) hf
                    obtain ⟨ba, oa, ca, j0', j1'⟩ := mat_at HMAT.out hfN hml
                    have j0 := Keeps.grown hnx.n.gr _ _ j0'
                    have j1 := Keeps.grown hnx.n.gr _ _ j1'
                    have hM : M0 f m = apL L f m := HEQ.out hfl HV.out
                    obtain ⟨_, _, x0, x1, x2⟩ := hnx.cells
                    have hjI : (j : Int) < (fs.length : Int) := by omega
                    have hj0 : (0 : Int) ≤ (j : Int) := by omega
                    have hf0 : (0 : Int) ≤ (f : Int) := by omega
                    have hfI : (f : Int) < (L.length : Int) := by omega
                    have hm0 : (0 : Int) ≤ (m : Int) := by omega
                    have hmI : (m : Int) < (L.length : Int) := by omega
                    have l0 := cell_lt d0
                    have l1 := cell_lt j0
                    have l2 := cell_lt j1
                    have HF := Lib.hid hf
                    have HLJ := Lib.hid hlj
                    clear j0' j1' hnx hfl hf
                    cases hb : M0 f m
                    · rw [hb] at j1 hM
                      have HM := Lib.hid hM.symm
                      clear hb hM
                      go_upto_region 32 with fail
                      go_quiet (fail)
                      go_wp2_with fail
                      go_roundw
                      case rel => exact ⟨j + 1, by go_num, HLJ.out, by rw [last_at HF.out HM.out], HNX.out.kept (only_drewN_C (only_refl _ _) _)⟩
                      case measure => simp [intOf]; omega
                    · rw [hb] at j1 hM
                      have HM := Lib.hid hM.symm
                      clear hb hM
                      go_upto_region 32 with fail
                      go_quiet (fail)
                      go_wp2_with fail
                      go_roundw
                      case rel => exact ⟨j + 1, by go_num, HLJ.out, by rw [last_up HF.out HM.out], HNX.out.kept (only_drewN_C (only_refl _ _) _)⟩
                      case measure => simp [intOf]; omega
                  · obtain rfl : j = fs.length := by omega
                    have hfsI : (fs.length : Int) ≤ 128 := by have := HNM.out.le; omega
                    have hjI : (fs.length : Int) ≤ (fs.length : Int) := Int.le_refl _
                    have hb3 : W3.heap.size ≤ wr.heap.size := hnx.n.gr.size
                    obtain ⟨lc, hlc⟩ : ∃ z, lastLike (apL L) fs m fs.length = z := ⟨_, rfl⟩
                    rw [hlc]
                    have hcs := last_cases (apL L) fs m fs.length
                    rw [hlc] at hcs
                    have HLC := Lib.hid hlc
                    clear hlj hj hlc hnx
                    go_upto_if 129 with fail
                    go_cut [13, 16] from 130 to 164 (fun f c W => ∃ (cn : Nat) (fs' : List Nat), c = .int .i64 (cn : Int) ∧ Nm L (k + 1) fs' (os ++ [cn]) ∧ NX W3 (.slice none 0 0) f vo vp fs' os ((List.range k).map (prioL L)) W4.heap.size (m : Int) s W)
                    case first =>
                      rcases hcs with ⟨rfl, _⟩ | ⟨cn, rfl, _⟩
                      · obtain ⟨_, _, x0, x1, x2⟩ := HNX.out.cells
                        go_wp2_with (at_builtin; refine wpList_append_intB (z := (m : Int)) rfl (.tmp 132) (.tmp 135) rfl rfl rfl ((HNX.out.kept (only_alloc (only_refl _ _) _)).n.of) (blk_at (by simp) _ _) (by rw [List.length_map]; omega) (by simp; omega) ?_; intro v1 W5 ho1 hg1 hb1; have hnx := (HNX.out.kept (only_alloc (only_refl _ _) _)).putF (fs' := fs ++ [m]) hg1 (by rw [List.map_append]; exact ho1) hb1; have HNX2 := Lib.hid hnx; clear ho1 hg1 hb1 hnx)
                        go_meet
                        exact ⟨fs.length, fs ++ [m], rfl, by (have h := HNM.out.new HK.out (by rw [HRP.out.1, HLC.out]; decide) (by rw [HRP.out.1]; exact HV.out)); rw [HRP.out.1] at h; exact h, HNX2.out⟩
                      · go_wp2_with fail
                        go_meet
                        exact ⟨cn, fs, rfl, HNM.out.old HK.out (by rw [HRP.out.1, HLC.out]), HNX.out⟩
                    case rest =>
                      obtain ⟨cn, fs', rfl, hnm', hnx⟩ := hcut
                      obtain ⟨A14, c14, h14⟩ := hnx.n.of.len
                      rw [List.length_map] at h14
                      subst h14
                      obtain ⟨Ao, co, ho⟩ := hnx.n.oo.len
                      rw [List.length_map] at ho
                      subst ho
                      obtain ⟨Ap, cp, hp⟩ := hnx.n.op.len
                      rw [List.length_map, List.length_range] at hp
                      subst hp
                      have HNX3 := Lib.hid hnx
                      have HNM3 := Lib.hid hnm'
                      have HOL : Hid (os.length = k) := Lib.hid HNM.out.len
                      obtain ⟨⟨_, u1, u2⟩, ⟨f1, f2, l0⟩, x0, x1, x2⟩ := hnx.cells
                      clear hnx hnm' HNX HNM hcs HLC hb3
                      go_upto_region 38 with (at_builtin; refine wpList_append_intB (z := (cn : Int)) rfl (.tmp 138) (.tmp 140) rfl rfl rfl ((HNX3.out.kept (only_alloc (only_refl _ _) _)).n.oo) (blk_at (by simp) _ _) (by rw [List.length_map, HOL.out]; omega) (by simp; exact Nat.le_succ_of_le HNX3.out.n.gr.size) ?_; intro v1 W5 ho1 hg1 hb1; obtain ⟨A3, c3, h3⟩ := ho1.len; simp only [List.length_append, List.length_map, List.length_cons, List.length_nil, Nat.zero_add] at h3; subst h3; have hnx := (HNX3.out.kept (only_alloc (only_refl _ _) _)).putO (os' := os ++ [cn]) hg1 (by rw [List.map_append]; exact ho1) hb1; have hbt := ((HNX3.out.kept (only_alloc (only_refl _ _) _)).n.own hg1 (HNX3.out.kept (only_alloc (only_refl _ _) _)).n.oo).2; have HNX4 := Lib.hid hnx; have d1 := hbt.cell 1; have e1 := hbt.frozen 1; have e2 := hbt.lt; clear ho1 hg1 hb1 hnx hbt u1 u2 f1 f2 l0 x0 x1 x2)
                      have hn4 := HNX4.out
                      clear HNX4 HNX3 d1 e1 e2
                      revert hn4
                      generalize World.setCell _ _ _ = W6
                      intro hn4
                      have HNX5 := Lib.hid hn4
                      obtain ⟨⟨_, u1, u2⟩, ⟨f1, f2, l0⟩, x0, x1, x2⟩ := hn4.cells
                      obtain ⟨bl, ol, A2, c2, hA6, _, y0, y1, _⟩ := cls_at (HTB3.out.keep (.grown hn4.n.gr)) HY.out
                      subst hA6
                      have hm0 : (0 : Int) ≤ (m : Int) := by omega
                      have hmI : (m : Int) < (L.length : Int) := by omega
                      have l1 := cell_lt y0
                      have hw : IntKind.i64.wrap (y.prio + s) = y.prio + s := IntWalk.i64_in _ ⟨by omega, by omega⟩
                      have HPR := Lib.hid HRP.out.2
                      clear hn4
                      by_cases h0 : y.kind = 0
                      · have HPZ : Hid (prioL L k = 0) := Lib.hid (by rw [HPR.out, if_pos h0])
                        rw [h0] at y0
                        clear h0
                        go_quiet (fail)
                        go_wp2_with (at_builtin; refine wpList_append_intB (z := (0 : Int)) rfl (.tmp 160) (.tmp 162) rfl rfl rfl ((HNX5.out.kept (only_alloc (only_drewN_C (only_refl _ _) _) _)).n.op) (blk_at (by simp) _ _) (by simp; omega) (by simp; exact Nat.le_succ_of_le HNX5.out.n.gr.size) ?_; intro v1 W7 ho1 hg1 hb1; obtain ⟨A8, c8, h8⟩ := ho1.len; simp only [List.length_append, List.length_map, List.length_range, List.length_cons, List.length_nil, Nat.zero_add] at h8; subst h8; have hnx := (HNX5.out.kept (only_alloc (only_drewN_C (only_refl _ _) _) _)).n.putP (ps' := (List.range (k + 1)).map (prioL L)) hg1 (by rw [prio_take, HPZ.out]; exact ho1) hb1; have hbt := ((HNX5.out.kept (only_alloc (only_drewN_C (only_refl _ _) _) _)).n.own hg1 (HNX5.out.kept (only_alloc (only_drewN_C (only_refl _ _) _) _)).n.op).2; have HNX6 := Lib.hid hnx; have d1 := hbt.cell 2; have e1 := hbt.frozen 2; have e2 := hbt.lt; clear ho1 hg1 hb1 hnx hbt u1 u2 f1 f2 l0 x0 x1 x2)
                        go_roundw
                        case rel => exact ⟨k + 1, _, _, fs', os ++ [cn], by go_num, HK.out, HNM3.out, HNX6.out⟩
                        case measure => simp [intOf]; omega
                      · have HPZ : Hid (prioL L k = y.prio + s) := Lib.hid (by rw [HPR.out, if_neg h0])
                        have h5b : (y.kind == 0) = false := by simp [h0]
                        have h5d : decide (y.kind = 0) = false := decide_eq_false h0
                        go_quiet (fail)
                        go_wp2_with (at_builtin; refine wpList_append_intB (z := y.prio + s) rfl (.tmp 160) (.tmp 162) rfl rfl rfl ((HNX5.out.kept (only_alloc (only_drewN_C (only_refl _ _) _) _)).n.op) (blk_at (by simp) _ _) (by simp; omega) (by simp; exact Nat.le_succ_of_le HNX5.out.n.gr.size) ?_; intro v1 W7 ho1 hg1 hb1; obtain ⟨A8, c8, h8⟩ := ho1.len; simp only [List.length_append, List.length_map, List.length_range, List.length_cons, List.length_nil, Nat.zero_add] at h8; subst h8; have hnx := (HNX5.out.kept (only_alloc (only_drewN_C (only_refl _ _) _) _)).n.putP (ps' := (List.range (k + 1)).map (prioL L)) hg1 (by rw [prio_take, HPZ.out]; exact ho1) hb1; have hbt := ((HNX5.out.kept (only_alloc (only_drewN_C (only_refl _ _) _) _)).n.own hg1 (HNX5.out.kept (only_alloc (only_drewN_C (only_refl _ _) _) _)).n.op).2; have HNX6 := Lib.hid hnx; have d1 := hbt.cell 2; have e1 := hbt.frozen 2; have e2 := hbt.lt; clear ho1 hg1 hb1 hnx hbt u1 u2 f1 f2 l0 x0 x1 x2)
                        go_roundw
                        case rel => exact ⟨k + 1, _, _, fs', os ++ [cn], by go_num, HK.out, HNM3.out, HNX6.out⟩
                        case measure => simp [intOf]; omega
              · obtain rfl : k = L.length := by omega
                have hkI : (L.length : Int) ≤ (L.length : Int) := Int.le_refl _
                have HNUM := Lib.hid HNM.out.done
                have hfs : fs.length ≤ L.length := HNM.out.le
                have HFL := Lib.hid HNM.out.live
                have HOL : Hid (os.length = L.length) := Lib.hid HNM.out.len
                obtain ⟨Ao, co, ho⟩ := HN3.out.oo.len
                rw [List.length_map, HOL.out] at ho
                subst ho
                obtain ⟨Ap, cp, hp⟩ := HN3.out.op.len
                rw [List.length_map, List.length_range] at hp
                subst hp
                have hfI : (fs.length : Int) ≤ 128 := by omega
                clear hlt hk HMAT HEQ HNM
                go_wp2_with fail
                go_loopw [19] (fun i W => ∃ (k : Nat) (vc : Value) (cs : List (Nd × Value)), i = .int .i64 (k : Int) ∧ k ≤ fs.length ∧ cs.map (·.1) = (fs.take k).map (clsN L xs.length os) ∧ N4 W3 vc (.slice A13 fs.length c13) (.slice Ao L.length co) (.slice Ap L.length cp) fs os ((List.range L.length).map (prioL L)) cs W) (fun i _ => 200 - (intOf i).toNat)
                case atStart => exact ⟨0, .slice none 0 0, [], rfl, Nat.zero_le _, rfl, HN3.out, CTw.start _ _, fun p hp => (by cases hp)⟩
                case round =>
                  clear HN3
                  obtain ⟨k, vc, cs, rfl, hk, hcs, hn4⟩ := hrel
                  have HCS := Lib.hid hcs
                  have HN4 := Lib.hid hn4
                  clear hcs
                  by_cases hlt : k < fs.length
                  · obtain ⟨f, hf⟩ : ∃ f, fs[k]? = some f := ⟨_, List.getElem?_eq_getElem hlt⟩
                    have hfl := HFL.out f (List.mem_of_getElem? hf)
                    have hfN := live_lt hfl
                    obtain ⟨x, hx, hx5⟩ := live_some hfl
                    obtain ⟨bl, ol, A2, c2, hA6, hE, x0, x1, x2, x3, x4, x5⟩ := cls_at (HTB3.out.keep (.grown hn4.n.gr)) hx
                    subst hA6
                    obtain ⟨b13, o13, rfl, d0⟩ := ints_atN (hn4.n.of.ints (by rw [List.length_map]; omega)) hf
                    obtain ⟨cn, hcn⟩ : ∃ cn, os[(f + xs.length) % L.length]? = some cn := ⟨_, List.getElem?_eq_getElem (by rw [HOL.out]; exact Nat.mod_lt _ (by omega))⟩
                    obtain ⟨bo, oo, rfl, q0⟩ := ints_atN (by have := hn4.n.oo.ints (by rw [List.length_map, HOL.out]; omega); rw [HOL.out]; exact this) hcn
                    have hkI2 : (k : Int) < (fs.length : Int) := by omega
                    have hk0 : (0 : Int) ≤ (k : Int) := by omega
                    have hf0 : (0 : Int) ≤ (f : Int) := by omega
                    have hfI2 : (f : Int) < (L.length : Int) := by omega
                    have HX := Lib.hid hx
                    have HF := Lib.hid hf
                    have HCN := Lib.hid hcn
                    have HE := Lib.hid hE
                    have HFN : Hid (f < L.length ∧ k < fs.length) := Lib.hid ⟨hfN, hlt⟩
                    have HTBk := Lib.hid (HTB3.out.keep (.grown hn4.n.gr))
                    have hbt4 := hn4.n.bt
                    obtain ⟨Avc, cvc, hvc⟩ := hn4.ct.len
                    subst hvc
                    have HBT := Lib.hid hbt4
                    have HINT : Hid (Ints wr (.slice (some ⟨bo, oo, none⟩) L.length co) (os.map Int.ofNat)) := Lib.hid (hn4.n.oo.ints (by rw [List.length_map, HOL.out]; omega))
                    clear hbt4
                    clear hn4 hx hf hfl hfN hE hcn hlt hx5
                    generalize wr = Wk at *
                    go_upto_region 46 with fail
                    go_cut [21] from 178 to 238 (fun c W => ∃ Bc, c = .pointer (some ⟨Bc, 0, none⟩) ∧ N5 Wk Wk.heap.size Bc x (.slice A2 x.next.length c2) ⟨x.kind, (cn : Int), x.chan, (0, 0), []⟩ (.slice none 0 0) W)
                    case first =>
                      have bN : Blk (Wk.alloc (.cells (ndCells x (.slice A2 x.next.length c2)) 46)) Wk.heap.size 46 (ndCells x (.slice A2 x.next.length c2)) := Blk.new _ _ _
                      have gN : Wk.grownBy (Wk.alloc (.cells (ndCells x (.slice A2 x.next.length c2)) 46)) none := only_alloc (only_refl _ _) _
                      have n0 := bN.cell 0
                      have n2 := bN.cell 2
                      have t1 := (HBT.out.kept gN).cell 1
                      have e0 := Keeps.grown gN _ _ d0
                      have e1 := Keeps.grown gN _ _ q0
                      have hmod : (f + xs.length) % L.length < L.length := Nat.mod_lt _ (by omega)
                      refine region_one (by kernel_rfl) (by kernel_rfl) [178, 179, 180, 181, 182, 183, 184, 185, 186, 187, 188, 189, 190, 191, 192, 193, 194, 195, 196, 21] (by kernel_rfl) (by kernel_rfl) (by decide)
                        [(0, .slice A xs.length cap), (6, .slice (some ⟨bl, ol, none⟩) L.length c6), (12, .pointer (some ⟨W3.heap.size, 0, none⟩)), (13, .slice (some ⟨b13, o13, none⟩) fs.length c13), (19, .int .i64 (k : Int)), (20, .pointer (some ⟨Wk.heap.size, 0, none⟩)), (178, .pointer (some ⟨Wk.heap.size, 0, none⟩)), (179, .int .i64 x.kind), (180, .pointer (some ⟨W3.heap.size, 1, none⟩)), (181, .slice (some ⟨bo, oo, none⟩) L.length co), (182, .slice (some ⟨b13, o13, none⟩) fs.length c13), (183, .int .i64 (k : Int)), (184, .pointer (some ⟨b13, o13 + k, none⟩)), (185, .int .i64 (f : Int)), (186, .slice A xs.length cap), (187, .int .i64 (xs.length : Int)), (188, .int .i64 ((f + xs.length : Nat) : Int)), (189, .slice (some ⟨bl, ol, none⟩) L.length c6), (190, .int .i64 (L.length : Int)), (191, .int .i64 (((f + xs.length) % L.length : Nat) : Int)), (192, .pointer (some ⟨bo, oo + (f + xs.length) % L.length, none⟩)), (193, .int .i64 (cn : Int)), (194, .pointer (some ⟨Wk.heap.size, 2, none⟩)), (195, .bool x.chan), (196, .agg (ndCells ⟨x.kind, (cn : Int), x.chan, (0, 0), []⟩ (.slice none 0 0)))]
                        ⟨21, 57, ndCells ⟨0, 0, false, (0, 0), []⟩ (.slice none 0 0), ndCells ⟨x.kind, (cn : Int), x.chan, (0, 0), []⟩ (.slice none 0 0), 196, 19, 20⟩
                        ?h0 (boxed_class _ _ _ _ _ _ _ _) rfl rfl (by dsimp only; decide) (by kernel_rfl) (by kernel_rfl) ?hops ?hQ
                      case h0 =>
                        intro p hp hn
                        simp only [List.mem_cons, List.not_mem_nil, or_false] at hp
                        rcases hp with rfl | rfl | rfl | rfl | rfl | rfl | rfl | rfl | rfl | rfl | rfl | rfl | rfl | rfl | rfl | rfl | rfl | rfl | rfl | rfl | rfl | rfl | rfl | rfl | rfl
                        all_goals first | rfl | exact absurd (by dsimp only; decide) hn
                      case hops =>
                        exact ⟨.val 178 _ rfl rfl rfl (fun b W hg hr => .inl (rc_node0 rfl (hr 20 _ (by simp [Op.operands]) rfl))), .val 179 _ rfl rfl rfl (fun b W hg hr => .inl (rc_loadInt rfl (hr 178 _ (by simp [Op.operands]) rfl) (Keeps.grown hg _ _ n0))), .val 180 _ rfl rfl rfl (fun b W hg hr => .inl (rc_table1 rfl (hr 12 _ (by simp [Op.operands]) rfl))), .val 181 _ rfl rfl rfl (fun b W hg hr => .inl (rc_loadInts rfl (hr 180 _ (by simp [Op.operands]) rfl) (Keeps.grown hg _ _ t1))), .val 182 _ rfl rfl rfl (fun b W hg hr => .inl (rc_move rfl (hr 13 _ (by simp [Op.operands]) rfl))), .val 183 _ rfl rfl rfl (fun b W hg hr => .inl (rc_move rfl (hr 19 _ (by simp [Op.operands]) rfl))), .val 184 _ rfl rfl rfl (fun b W hg hr => .inl (rc_indexInts rfl (hr 182 _ (by simp [Op.operands]) rfl) (hr 183 _ (by simp [Op.operands]) rfl) HFN.out.2)), .val 185 _ rfl rfl rfl (fun b W hg hr => .inl (rc_loadInt rfl (hr 184 _ (by simp [Op.operands]) rfl) (Keeps.grown hg _ _ e0))), .val 186 _ rfl rfl rfl (fun b W hg hr => .inl (rc_move rfl (hr 0 _ (by simp [Op.operands]) rfl))), .val 187 _ rfl rfl rfl (fun b W hg hr => .inl (rc_len rfl (hr 186 _ (by simp [Op.operands, Call.operands]) rfl))), .val 188 _ rfl rfl rfl (fun b W hg hr => .inl (rc_add rfl (hr 185 _ (by simp [Op.operands]) rfl) (hr 187 _ (by simp [Op.operands]) rfl) (by have := HFN.out.1; omega) (by omega))), .val 189 _ rfl rfl rfl (fun b W hg hr => .inl (rc_move rfl (hr 6 _ (by simp [Op.operands]) rfl))), .val 190 _ rfl rfl rfl (fun b W hg hr => .inl (rc_len rfl (hr 189 _ (by simp [Op.operands, Call.operands]) rfl))), .val 191 _ rfl rfl rfl (fun b W hg hr => .inl (rc_rem rfl (hr 188 _ (by simp [Op.operands]) rfl) (hr 190 _ (by simp [Op.operands]) rfl) (by omega) (by have := HN.out; omega))), .val 192 _ rfl rfl rfl (fun b W hg hr => .inl (rc_indexInts rfl (hr 181 _ (by simp [Op.operands]) rfl) (hr 191 _ (by simp [Op.operands]) rfl) hmod)), .val 193 _ rfl rfl rfl (fun b W hg hr => .inl (rc_loadInt rfl (hr 192 _ (by simp [Op.operands]) rfl) (Keeps.grown hg _ _ e1))), .val 194 _ rfl rfl rfl (fun b W hg hr => .inl (rc_node2 rfl (hr 20 _ (by simp [Op.operands]) rfl))), .val 195 _ rfl rfl rfl (fun b W hg hr => .inl (rc_loadBool rfl (hr 194 _ (by simp [Op.operands]) rfl) (Keeps.grown hg _ _ n2))), .val 196 _ rfl rfl rfl (fun b W hg hr => .inl (rc_build rfl (hr 179 _ (by simp [Op.operands]) rfl) (hr 193 _ (by simp [Op.operands]) rfl) (hr 195 _ (by simp [Op.operands]) rfl))), .al rfl rfl rfl, .st rfl rfl rfl, trivial⟩
                      case hQ =>
                        intro vs W Bc hg e1' hne hb hv
                        have HZ : Hid (∃ Bc, vs 21 = .pointer (some ⟨Bc, 0, none⟩) ∧ N5 Wk Wk.heap.size Bc x (.slice A2 x.next.length c2) ⟨x.kind, (cn : Int), x.chan, (0, 0), []⟩ (.slice none 0 0) W) :=
                          Lib.hid ⟨Bc, e1', only_trans gN hg, bN.kept hg, hb, World.ownsRow_nil _ _ _ _, Nat.le_refl _, Nat.le_trans gN.size hne⟩
                        clear hg e1' hne hb hv
                        simp only [List.foldl_cons, List.foldl_nil, List.setIfInBounds_toArray, List.set_cons_zero, List.set_cons_succ]
                        go_wp2_with fail
                        go_meet
                        exact HZ.out
                    case rest =>
                      obtain ⟨Bc, rfl, hn5⟩ := hcut
                      have HN5 := Lib.hid hn5
                      have b2 : wc.cell? ⟨Wk.heap.size, 2, none⟩ = some (.bool x.chan) := hn5.bn.cell 2
                      have l2 := hn5.bn.lt
                      clear hn5
                      go_upto_if 198 with fail
                      go_cut [22] from 171 to 238 (fun _ W => N5 Wk Wk.heap.size Bc x (.slice A2 x.next.length c2) ⟨x.kind, (cn : Int), x.chan, if x.chan = true then linkL L os x x.pay else (0, 0), []⟩ (.slice none 0 0) W)
                      case first =>
                        cases hch : x.chan
                        · have HCH := Lib.hid hch
                          rw [hch] at b2
                          clear hch
                          go_wp2_with fail
                          go_meet
                          rw [if_neg (by rw [HCH.out]; decide)]
                          exact HN5.out
                        · have HCH := Lib.hid hch
                          have HPAY : Hid (x.pay ∈ allE x) := Lib.hid (by unfold allE; rw [hch]; simp)
                          rw [hch] at b2
                          clear hch
                          go_upto_region 48 with fail
                          refine region_chainW (by kernel_rfl) (by kernel_rfl) (by kernel_rfl) [199, 200, 201, 202, 203, 204, 205, 206, 207, 208] (by kernel_rfl) (by kernel_rfl) (by decide)
                            [(6, .slice (some ⟨bl, ol, none⟩) L.length c6), (12, .pointer (some ⟨W3.heap.size, 0, none⟩)), (13, .slice (some ⟨b13, o13, none⟩) fs.length c13), (19, .int .i64 (k : Int)), (20, .pointer (some ⟨Wk.heap.size, 0, none⟩)), (21, .pointer (some ⟨Bc, 0, none⟩)), (199, .slice (some ⟨bl, ol, none⟩) L.length c6), (200, .agg #[.slice Avc cs.length cvc, .slice (some ⟨bo, oo, none⟩) L.length co, .slice Ap L.length cp]), (201, .slice (some ⟨b13, o13, none⟩) fs.length c13), (202, .int .i64 (k : Int)), (203, .pointer (some ⟨b13, o13 + k, none⟩)), (204, .int .i64 (f : Int)), (205, .pointer (some ⟨Wk.heap.size, 3, none⟩)), (206, edV x.pay), (208, .pointer (some ⟨Bc, 3, none⟩))]
                            ?h0 [8, 10] (by kernel_rfl) (by kernel_rfl) (by decide) (by kernel_rfl) (TP wc Bc (linkL L os x x.pay)) ?hT ?reads ?steps (only_drew (only_refl _ _)) ?hQ
                          case h0 =>
                            intro p hp hn
                            simp only [List.mem_cons, List.not_mem_nil, or_false] at hp
                            rcases hp with rfl | rfl | rfl | rfl | rfl | rfl | rfl | rfl | rfl | rfl | rfl | rfl | rfl | rfl | rfl
                            all_goals first | rfl | exact absurd (by dsimp only; decide) hn
                          case hT =>
                            intro j f' g' W' hj he
                            match j, hj with
                            | 0, hj => exact hj
                            | 1, ⟨h1, h2⟩ => exact ⟨(he 0 8 _ 207 (by decide) rfl rfl rfl).symm.trans h1, h2⟩
                            | 2, hj => exact hj
                          case reads =>
                            intro i o ho hn
                            have hrd : ∀ j f' W', j < 2 → TP wc Bc (linkL L os x x.pay) j f' W' → Blk W' W3.heap.size 27 #[.slice Avc cs.length cvc, .slice (some ⟨bo, oo, none⟩) L.length co, .slice Ap L.length cp] ∧ W'.cell? ⟨b13, o13 + k, none⟩ = some (.int .i64 (f : Int)) ∧ Blk W' Wk.heap.size 46 (ndCells x (.slice A2 x.next.length c2)) := by
                              intro j f' W' hj hT'
                              have plain : ∀ {W'}, wc.grownBy W' none → Blk W' W3.heap.size 27 #[.slice Avc cs.length cvc, .slice (some ⟨bo, oo, none⟩) L.length co, .slice Ap L.length cp] ∧ W'.cell? ⟨b13, o13 + k, none⟩ = some (.int .i64 (f : Int)) ∧ Blk W' Wk.heap.size 46 (ndCells x (.slice A2 x.next.length c2)) := fun hg => ⟨HBT.out.kept (only_trans HN5.out.gr hg), Keeps.grown (only_trans HN5.out.gr hg) _ _ d0, HN5.out.bn.kept hg⟩
                              match j, hj, hT' with
                              | 0, _, hT' => exact plain hT'
                              | 1, _, ⟨_, hg⟩ => exact plain hg
                            have h9 : i = 0 ∨ i = 1 ∨ i = 2 ∨ i = 3 ∨ i = 4 ∨ i = 5 ∨ i = 6 ∨ i = 7 ∨ i = 9 := by
                              have h1 := (Array.getElem?_eq_some_iff.1 ho).1
                              simp only [List.size_toArray, List.length_cons, List.length_nil] at h1
                              simp only [List.mem_cons, List.not_mem_nil, or_false] at hn
                              omega
                            rcases h9 with rfl | rfl | rfl | rfl | rfl | rfl | rfl | rfl | rfl
                            · cases ho
                              exact ⟨199, _, rfl, rfl, fun j f' b W' hj hT' henv => rc_move rfl (henv 6 _ (by simp [Op.operands]) rfl)⟩
                            · cases ho
                              exact ⟨200, _, rfl, rfl, fun j f' b W' hj hT' henv => rc_loadTable rfl (henv 12 _ (by simp [Op.operands]) rfl) ((hrd j f' W' hj hT').1.cell 0) ((hrd j f' W' hj hT').1.cell 1) ((hrd j f' W' hj hT').1.cell 2)⟩
                            · cases ho
                              exact ⟨201, _, rfl, rfl, fun j f' b W' hj hT' henv => rc_move rfl (henv 13 _ (by simp [Op.operands]) rfl)⟩
                            · cases ho
                              exact ⟨202, _, rfl, rfl, fun j f' b W' hj hT' henv => rc_move rfl (henv 19 _ (by simp [Op.operands]) rfl)⟩
                            · cases ho
                              exact ⟨203, _, rfl, rfl, fun j f' b W' hj hT' henv => rc_indexInts rfl (henv 201 _ (by simp [Op.operands]) rfl) (henv 202 _ (by simp [Op.operands]) rfl) HFN.out.2⟩
                            · cases ho
                              exact ⟨204, _, rfl, rfl, fun j f' b W' hj hT' henv => rc_loadInt rfl (henv 203 _ (by simp [Op.operands]) rfl) (hrd j f' W' hj hT').2.1⟩
                            · cases ho
                              exact ⟨205, _, rfl, rfl, fun j f' b W' hj hT' henv => rc_node3 rfl (henv 20 _ (by simp [Op.operands]) rfl)⟩
                            · cases ho
                              exact ⟨206, _, rfl, rfl, fun j f' b W' hj hT' henv => rc_loadEdge rfl (henv 205 _ (by simp [Op.operands]) rfl) ((hrd j f' W' hj hT').2.2.cell 3) ((hrd j f' W' hj hT').2.2.cell 4)⟩
                            · cases ho
                              exact ⟨208, _, rfl, rfl, fun j f' b W' hj hT' henv => rc_class3 rfl (henv 21 _ (by simp [Op.operands]) rfl)⟩
                          case steps =>
                            intro j i o hj ho
                            have h4 : j = 0 ∨ j = 1 := by
                              have := (List.getElem?_eq_some_iff.1 hj).1
                              simp only [List.length_cons, List.length_nil] at this
                              omega
                            rcases h4 with rfl | rfl
                            · cases hj
                              cases ho
                              refine ⟨fun t e => by cases e; rfl, fun b W' hb hT1 henv => ?_⟩
                              have hg : wc.grownBy W' none := hT1
                              refine wp_link rfl (henv 199 _ (by simp [Op.operands, Call.operands]) rfl) (henv 200 _ (by simp [Op.operands, Call.operands]) rfl) (henv 204 _ (by simp [Op.operands, Call.operands]) rfl) (henv 206 _ (by simp [Op.operands, Call.operands]) rfl) (rlink_is HTW.out (by have := HN.out; omega) HX.out HPAY.out HOL.out (HTBk.out.keep (.grown (only_trans HN5.out.gr hg))) (HINT.out.keep (.grown (only_trans HN5.out.gr hg)))) ?_
                              rintro e W5 ⟨rfl, hg5⟩
                              exact ⟨_, rfl, _, rfl, act_put_atC _ (by rw [hb]; show _ < 240; decide), only_trans hg hg5⟩
                            · cases hj
                              cases ho
                              refine ⟨fun t e => (by cases e), fun b W' hb hT1 henv => ?_⟩
                              obtain ⟨h1, hg⟩ := hT1
                              exact wp_storeL rfl (henv 208 _ (by simp [Op.operands]) rfl) h1 (HN5.out.bc.kept hg) ⟨undef, rfl, W', rfl, hg⟩
                          case hQ =>
                            intro vs W hv hT'
                            obtain ⟨W1, hW1, hg1⟩ := hT'
                            subst hW1
                            have HZ := Lib.hid ((HN5.out.kept hg1).pay (linkL L os x x.pay))
                            clear hv hg1
                            simp only [List.foldl_cons, List.foldl_nil, List.setIfInBounds_toArray, List.set_cons_zero, List.set_cons_succ]
                            go_wp2_with fail
                            go_meet
                            rw [if_pos HCH.out]
                            exact HZ.out
                      case rest =>
                        have HN6 := Lib.hid hcut
                        have h8 : (x.next.length : Int) ≤ 8 := by have := (HTW.out.good x (List.mem_of_getElem? HX.out)).2.2; omega
                        clear HN5 b2 l2 hcut
                        go_wp2_with fail
                        go_loopw [22] (fun i W => ∃ (q : Nat) (vn : Value), q ≤ x.next.length ∧ i = .int .i64 (q : Int) ∧ N5 Wk Wk.heap.size Bc x (.slice A2 x.next.length c2) ⟨x.kind, (cn : Int), x.chan, if x.chan = true then linkL L os x x.pay else (0, 0), (x.next.take q).map (linkL L os x)⟩ vn W) (fun i _ => 16 - (intOf i).toNat)
                        case atStart => exact ⟨0, .slice none 0 0, Nat.zero_le _, rfl, HN6.out⟩
                        case round =>
                          clear HN6
                          obtain ⟨q, vn, hq, rfl, hn7⟩ := hrel
                          obtain ⟨An, cvn, hvn⟩ := hn7.ln.len
                          rw [List.length_map, List.length_take, Nat.min_eq_left hq] at hvn
                          subst hvn
                          have HN7 := Lib.hid hn7
                          have n5 : wr.cell? ⟨Wk.heap.size, 5, none⟩ = some (.slice A2 x.next.length c2) := hn7.bn.cell 5
                          have nl := hn7.bn.lt
                          clear hn7
                          by_cases hql : q < x.next.length
                          · have hqI : (q : Int) < (x.next.length : Int) := by omega
                            have hq0 : (0 : Int) ≤ (q : Int) := by omega
                            obtain ⟨⟨ea, es5⟩, he5⟩ : ∃ e, x.next[q]? = some e := ⟨_, List.getElem?_eq_getElem hql⟩
                            obtain ⟨A', c', hA, _, hcl⟩ := HE.out
                            obtain ⟨b5, o5, hb5, hce⟩ := hcl (by intro e0; rw [e0] at hql; simp at hql)
                            obtain ⟨rfl, rfl⟩ : A2 = A' ∧ c2 = c' := by simpa using hA
                            subst hb5
                            obtain ⟨k0, k1⟩ := hce q _ he5
                            have HEQ5 := Lib.hid he5
                            have HQL := Lib.hid hql
                            have HIN : Hid (((ea, es5) : Ed) ∈ allE x) := Lib.hid (List.mem_append_left _ (List.mem_of_getElem? he5))
                            clear hA hcl hce he5 hql
                            go_upto_region 52 with fail
                            refine region_chainW (by kernel_rfl) (by kernel_rfl) (by kernel_rfl) [216, 217, 218, 219, 220, 221, 222, 223, 224, 225, 226, 227, 228, 229, 230, 231, 232] (by kernel_rfl) (by kernel_rfl) (by decide)
                              [(6, .slice (some ⟨bl, ol, none⟩) L.length c6), (12, .pointer (some ⟨W3.heap.size, 0, none⟩)), (13, .slice (some ⟨b13, o13, none⟩) fs.length c13), (19, .int .i64 (k : Int)), (20, .pointer (some ⟨Wk.heap.size, 0, none⟩)), (21, .pointer (some ⟨Bc, 0, none⟩)), (22, .int .i64 (q : Int)), (216, .pointer (some ⟨Bc, 5, none⟩)), (217, .slice An q cvn), (218, .slice (some ⟨bl, ol, none⟩) L.length c6), (219, .agg #[.slice Avc cs.length cvc, .slice (some ⟨bo, oo, none⟩) L.length co, .slice Ap L.length cp]), (220, .slice (some ⟨b13, o13, none⟩) fs.length c13), (221, .int .i64 (k : Int)), (222, .pointer (some ⟨b13, o13 + k, none⟩)), (223, .int .i64 (f : Int)), (224, .pointer (some ⟨Wk.heap.size, 5, none⟩)), (225, .slice (some ⟨b5, o5, none⟩) x.next.length c2), (226, .int .i64 (q : Int)), (227, .pointer (some ⟨b5, o5 + q * 2, none⟩)), (228, edV (ea, es5)), (232, .pointer (some ⟨Bc, 5, none⟩))]
                              ?h0 [13, 14, 15, 17] (by kernel_rfl) (by kernel_rfl) (by decide) (by kernel_rfl) (TL wr Wk.heap.size Bc (.slice An q cvn) ((x.next.take q).map (linkL L os x)) (linkL L os x (ea, es5))) ?hT ?reads ?steps (only_drew (only_refl _ _)) ?hQ
                            case h0 =>
                              intro p hp hn
                              simp only [List.mem_cons, List.not_mem_nil, or_false] at hp
                              rcases hp with rfl | rfl | rfl | rfl | rfl | rfl | rfl | rfl | rfl | rfl | rfl | rfl | rfl | rfl | rfl | rfl | rfl | rfl | rfl | rfl | rfl
                              all_goals first | rfl | exact absurd (by dsimp only; decide) hn
                            case hT =>
                              intro j f' g' W' hj he
                              match j, hj with
                              | 0, hj => exact hj
                              | 1, ⟨h1, h2⟩ => exact ⟨(he 0 13 _ 229 (by decide) rfl rfl rfl).symm.trans h1, h2⟩
                              | 2, ⟨g2, h1, h2⟩ => exact ⟨g2, (he 1 14 _ 230 (by decide) rfl rfl rfl).symm.trans h1, h2⟩
                              | 3, ⟨v', W1, h1, h2⟩ => exact ⟨v', W1, (he 2 15 _ 231 (by decide) rfl rfl rfl).symm.trans h1, h2⟩
                              | 4, hj => exact hj
                            case reads =>
                              intro i o ho hn
                              have hrd : ∀ j f' W', j < 4 → TL wr Wk.heap.size Bc (.slice An q cvn) ((x.next.take q).map (linkL L os x)) (linkL L os x (ea, es5)) j f' W' → RdL Wk W3.heap.size Bc x (.slice (some ⟨b5, o5, none⟩) x.next.length c2) ⟨x.kind, (cn : Int), x.chan, if x.chan = true then linkL L os x x.pay else (0, 0), (x.next.take q).map (linkL L os x)⟩ (.slice An q cvn) (.slice Avc cs.length cvc) (.slice (some ⟨bo, oo, none⟩) L.length co) (.slice Ap L.length cp) W' := by
                                intro j f' W' hj hT'
                                have plain : ∀ {W'}, wr.grownBy W' none → RdL Wk W3.heap.size Bc x (.slice (some ⟨b5, o5, none⟩) x.next.length c2) ⟨x.kind, (cn : Int), x.chan, if x.chan = true then linkL L os x x.pay else (0, 0), (x.next.take q).map (linkL L os x)⟩ (.slice An q cvn) (.slice Avc cs.length cvc) (.slice (some ⟨bo, oo, none⟩) L.length co) (.slice Ap L.length cp) W' := fun hg => ⟨only_trans HN7.out.gr hg, HN7.out.bn.kept hg, HN7.out.bc.kept hg, HBT.out.kept (only_trans HN7.out.gr hg)⟩
                                match j, hj, hT' with
                                | 0, _, hT' => exact plain hT'
                                | 1, _, ⟨_, hg⟩ => exact plain hg
                                | 2, _, ⟨_, _, _, hg⟩ => exact plain hg
                                | 3, _, ⟨_, W1, _, hg, hg5, _⟩ =>
                                  obtain ⟨r1, r2, r3⟩ := (HN7.out.kept hg).mid hg5
                                  exact ⟨r1, r3, r2, HBT.out.kept r1⟩
                              have h9 : i = 0 ∨ i = 1 ∨ i = 2 ∨ i = 3 ∨ i = 4 ∨ i = 5 ∨ i = 6 ∨ i = 7 ∨ i = 8 ∨ i = 9 ∨ i = 10 ∨ i = 11 ∨ i = 12 ∨ i = 16 := by
                                have h1 := (Array.getElem?_eq_some_iff.1 ho).1
                                simp only [List.size_toArray, List.length_cons, List.length_nil] at h1
                                simp only [List.mem_cons, List.not_mem_nil, or_false] at hn
                                omega
                              rcases h9 with rfl | rfl | rfl | rfl | rfl | rfl | rfl | rfl | rfl | rfl | rfl | rfl | rfl | rfl
                              · cases ho
                                exact ⟨216, _, rfl, rfl, fun j f' b W' hj hT' henv => rc_class4 rfl (henv 21 _ (by simp [Op.operands]) rfl)⟩
                              · cases ho
                                exact ⟨217, _, rfl, rfl, fun j f' b W' hj hT' henv => rc_loadLinks rfl (henv 216 _ (by simp [Op.operands]) rfl) ((hrd j f' W' hj hT').bc.cell 5)⟩
                              · cases ho
                                exact ⟨218, _, rfl, rfl, fun j f' b W' hj hT' henv => rc_move rfl (henv 6 _ (by simp [Op.operands]) rfl)⟩
                              · cases ho
                                exact ⟨219, _, rfl, rfl, fun j f' b W' hj hT' henv => rc_loadTable rfl (henv 12 _ (by simp [Op.operands]) rfl) ((hrd j f' W' hj hT').tb.cell 0) ((hrd j f' W' hj hT').tb.cell 1) ((hrd j f' W' hj hT').tb.cell 2)⟩
                              · cases ho
                                exact ⟨220, _, rfl, rfl, fun j f' b W' hj hT' henv => rc_move rfl (henv 13 _ (by simp [Op.operands]) rfl)⟩
                              · cases ho
                                exact ⟨221, _, rfl, rfl, fun j f' b W' hj hT' henv => rc_move rfl (henv 19 _ (by simp [Op.operands]) rfl)⟩
                              · cases ho
                                exact ⟨222, _, rfl, rfl, fun j f' b W' hj hT' henv => rc_indexInts rfl (henv 220 _ (by simp [Op.operands]) rfl) (henv 221 _ (by simp [Op.operands]) rfl) HFN.out.2⟩
                              · cases ho
                                exact ⟨223, _, rfl, rfl, fun j f' b W' hj hT' henv => rc_loadInt rfl (henv 222 _ (by simp [Op.operands]) rfl) (Keeps.grown (hrd j f' W' hj hT').gr _ _ d0)⟩
                              · cases ho
                                exact ⟨224, _, rfl, rfl, fun j f' b W' hj hT' henv => rc_node4 rfl (henv 20 _ (by simp [Op.operands]) rfl)⟩
                              · cases ho
                                exact ⟨225, _, rfl, rfl, fun j f' b W' hj hT' henv => rc_loadEdges rfl (henv 224 _ (by simp [Op.operands]) rfl) ((hrd j f' W' hj hT').bn.cell 5)⟩
                              · cases ho
                                exact ⟨226, _, rfl, rfl, fun j f' b W' hj hT' henv => rc_move rfl (henv 22 _ (by simp [Op.operands]) rfl)⟩
                              · cases ho
                                exact ⟨227, _, rfl, rfl, fun j f' b W' hj hT' henv => rc_indexEdges rfl (henv 225 _ (by simp [Op.operands]) rfl) (henv 226 _ (by simp [Op.operands]) rfl) HQL.out⟩
                              · cases ho
                                exact ⟨228, _, rfl, rfl, fun j f' b W' hj hT' henv => rc_loadEdge rfl (henv 227 _ (by simp [Op.operands]) rfl) (Keeps.grown (hrd j f' W' hj hT').gr _ _ k0) (Keeps.grown (hrd j f' W' hj hT').gr _ _ k1)⟩
                              · cases ho
                                exact ⟨232, _, rfl, rfl, fun j f' b W' hj hT' henv => rc_class4 rfl (henv 21 _ (by simp [Op.operands]) rfl)⟩
                            case steps =>
                              intro j i o hj ho
                              have h4 : j = 0 ∨ j = 1 ∨ j = 2 ∨ j = 3 := by
                                have := (List.getElem?_eq_some_iff.1 hj).1
                                simp only [List.length_cons, List.length_nil] at this
                                omega
                              rcases h4 with rfl | rfl | rfl | rfl
                              · cases hj
                                cases ho
                                refine ⟨fun t e => by cases e; rfl, fun b W' hb hT1 henv => ?_⟩
                                have hg : wr.grownBy W' none := hT1
                                refine wp_link rfl (henv 218 _ (by simp [Op.operands, Call.operands]) rfl) (henv 219 _ (by simp [Op.operands, Call.operands]) rfl) (henv 223 _ (by simp [Op.operands, Call.operands]) rfl) (henv 228 _ (by simp [Op.operands, Call.operands]) rfl) (rlink_is HTW.out (by have := HN.out; omega) HX.out HIN.out HOL.out (HTBk.out.keep (.grown (only_trans HN7.out.gr hg))) (HINT.out.keep (.grown (only_trans HN7.out.gr hg)))) ?_
                                rintro e W5 ⟨rfl, hg5⟩
                                exact ⟨_, rfl, _, rfl, act_put_atC _ (by rw [hb]; show _ < 240; decide), only_trans hg hg5⟩
                              · cases hj
                                cases ho
                                refine ⟨fun t e => by cases e; rfl, fun b W' hb hT1 henv => ?_⟩
                                obtain ⟨h1, hg⟩ := hT1
                                exact wp_buildL rfl h1 ⟨_, rfl, W'.heap.size, act_put_atC _ (by rw [hb]; show _ < 240; decide), Blk.new _ _ _, only_alloc hg _⟩
                              · cases hj
                                cases ho
                                refine ⟨fun t e => by cases e; rfl, fun b W' hb hT1 henv => ?_⟩
                                obtain ⟨g2, h1, h2, hg⟩ := hT1
                                exact wp_appendL (.tmp 217) (.tmp 230) rfl (henv 217 _ (by simp [Op.operands, Call.operands]) rfl) h1 (HN7.out.kept hg).ln h2 (by rw [List.length_map, List.length_take]; omega) (only_trans HN7.out.gr hg).size (fun v' W5 ho5 hg5 => ⟨_, rfl, v', W', act_put_atC _ (by rw [hb]; show _ < 240; decide), hg, hg5, ho5⟩)
                              · cases hj
                                cases ho
                                refine ⟨fun t e => (by cases e), fun b W' hb hT1 henv => ?_⟩
                                obtain ⟨v', W1, h1, hg, hg5, ho5⟩ := hT1
                                obtain ⟨A5, c5, rfl⟩ := ho5.len
                                exact wp_storeLs rfl (henv 232 _ (by simp [Op.operands]) rfl) h1 ((HN7.out.kept hg).mid hg5).2.1 ⟨undef, rfl, _, W1, W', rfl, hg, hg5, ho5⟩
                            case hQ =>
                              intro vs W hv hT'
                              obtain ⟨v', W1, W2', hW1, hg1, hg2, ho⟩ := hT'
                              subst hW1
                              have HZ := Lib.hid ((HN7.out.kept hg1).next hg2 ho)
                              clear hv hg1 hg2 ho
                              simp only [List.foldl_cons, List.foldl_nil, List.setIfInBounds_toArray, List.set_cons_zero, List.set_cons_succ]
                              go_wp2_with fail
                              go_roundw
                              case rel =>
                                refine ⟨q + 1, v', HQL.out, by go_num, ?_⟩
                                rw [take_len HEQ5.out, List.map_append]
                                exact HZ.out
                              case measure => simp [intOf]; omega
                          · obtain rfl : q = x.next.length := by omega
                            have hqI : (x.next.length : Int) ≤ (x.next.length : Int) := Int.le_refl _
                            have h8n := HN7.out
                            rw [List.take_length] at h8n
                            have HN8 := Lib.hid h8n
                            have HN9 := Lib.hid (HN4.out.kept h8n.gr)
                            obtain ⟨pl, hpl⟩ : ∃ z, (if x.chan = true then linkL L os x x.pay else (0, 0)) = z := ⟨_, rfl⟩
                            have HPL := Lib.hid hpl
                            rw [hpl] at h8n
                            obtain ⟨pa, pb⟩ := pl
                            have m0 : wr.cell? ⟨Bc, 0, none⟩ = some (.int .i64 x.kind) := h8n.bc.cell 0
                            have m1 : wr.cell? ⟨Bc, 1, none⟩ = some (.int .i64 (cn : Int)) := h8n.bc.cell 1
                            have m2 : wr.cell? ⟨Bc, 2, none⟩ = some (.bool x.chan) := h8n.bc.cell 2
                            have m3 : wr.cell? ⟨Bc, 3, none⟩ = some (.int .i64 pa) := h8n.bc.cell 3
                            have m4 : wr.cell? ⟨Bc, 4, none⟩ = some (.int .i64 pb) := h8n.bc.cell 4
                            have m5 : wr.cell? ⟨Bc, 5, none⟩ = some (.slice An x.next.length cvn) := h8n.bc.cell 5
                            have mb := HN9.out.n.bt
                            have u0 := mb.cell 0
                            have ul := mb.lt
                            have bl5 := h8n.bc.lt
                            have HY := Lib.hid (cls_is HX.out HCN.out)
                            have HCL : Hid (cs.length = k) := Lib.hid (by have := congrArg List.length HCS.out; rw [List.length_map, List.length_map, List.length_take] at this; omega)
                            clear h8n hpl mb hql hq HN7
                            go_wp2_with (at_builtin; refine wpList_append_class (nd := ⟨x.kind, (cn : Int), x.chan, (pa, pb), x.next.map (linkL L os x)⟩) (e := .slice An x.next.length cvn) rfl (.tmp 234) (.tmp 236) rfl rfl rfl ((HN9.out.kept (only_alloc (only_refl _ _) _)).ct) (blk_at (by simp) _ _) (((HN8.out.ln.kept0 (only_alloc (only_refl _ _) _)).base_ HN4.out.n.gr.size).edges (by rw [List.length_map]; omega)) (by have := HCL.out; omega) (by simp; exact Nat.le_succ_of_le HN9.out.n.gr.size) ?_; intro v1 W5 ho1 hg1; obtain ⟨A9, c9, h9⟩ := ho1.len; simp only [List.length_append, List.length_cons, List.length_nil, Nat.zero_add] at h9; subst h9; have hbt := (HN9.out.kept (only_alloc (only_refl _ _) _)).mid hg1; have HNA := Lib.hid ((HN9.out.kept (only_alloc (only_refl _ _) _)).put hg1 (((HN8.out.ln.kept0 (only_alloc (only_refl _ _) _)).base_ (Nat.zero_le _)).edges (by rw [List.length_map]; omega)) ho1); have y0 := hbt.cell 0; have y1 := hbt.frozen 0; have y2 := hbt.lt; clear ho1 hg1 hbt u0 ul m0 m1 m2 m3 m4 m5 bl5)
                            go_roundw
                            case rel =>
                              refine ⟨k + 1, _, _, by go_num, HFN.out.2, ?_, HNA.out⟩
                              rw [List.map_append, HCS.out, take_len HF.out, List.map_append]
                              simp only [List.map_cons, List.map_nil]
                              rw [HY.out, HPL.out]
                            case measure => simp [intOf]; omega
                  · obtain rfl : k = fs.length := by omega
                    have hkI2 : (fs.length : Int) ≤ (fs.length : Int) := Int.le_refl _
                    obtain ⟨Avc, cvc, hvc⟩ := hn4.ct.len
                    subst hvc
                    have HN5 := Lib.hid hn4
                    have hb := HB3.out.kept hn4.n.gr
                    have HB5 := Lib.hid hb
                    have m0 := hn4.n.bt.cell 0
                    have m1 := hn4.n.bt.cell 1
                    have m2 := hn4.n.bt.cell 2
                    have ml := hn4.n.bt.lt
                    have f0 := hb.frozen 0
                    have f1 := hb.frozen 1
                    have f2 := hb.frozen 2
                    have c0 := hb.cell 0
                    have c1 := hb.cell 1
                    have c2 := hb.cell 2
                    have bl0 := hb.lt
                    clear hlt hk hb hn4 HN4
                    go_wp2_with fail
                    have b3 := ((HB5.out.set_ 0 (.slice Avc cs.length cvc)).set_ 1 (.slice Ao L.length co)).set_ 2 (.slice Ap L.length cp)
                    have hs := only_setCell (only_setCell (only_setCell (only_refl wr (some w.heap.size)) (p := ⟨w.heap.size, 0, none⟩) rfl (.slice Avc cs.length cvc)) (p := ⟨w.heap.size, 1, none⟩) rfl (.slice Ao L.length co)) (p := ⟨w.heap.size, 2, none⟩) rfl (.slice Ap L.length cp)
                    have hg := only_setNew (only_setNew (only_setNew (only_trans HG3.out HN5.out.n.gr) (p := ⟨w.heap.size, 0, none⟩) (Nat.le_refl _) (.slice Avc cs.length cvc)) (p := ⟨w.heap.size, 1, none⟩) (Nat.le_refl _) (.slice Ao L.length co)) (p := ⟨w.heap.size, 2, none⟩) (Nat.le_refl _) (.slice Ap L.length cp)
                    obtain ⟨t1, t2, t3⟩ := HN5.out.done hs HB5.out
                    have t4 := HCS.out
                    rw [List.take_length] at t4
                    refine bodyPost_ret (of_results (g := w.heap.size) rfl rfl b3 ⟨_, _, _, rfl⟩ ⟨_, _, _, rfl⟩ ⟨_, _, _, rfl⟩) rfl ?_
                    refine ⟨⟨_, rfl, ?_⟩, hg⟩
                    rw [HCT.out, HNUM.out]
                    exact ⟨_, _, _, _, rfl, t4, t1, t2, t3, by dsimp only; rw [List.length_map, HOL.out]; omega, by dsimp only; rw [List.length_map, List.length_range]; omega⟩
          · clear hc0
            go_wp2_with fail
            go_loopw [9, 10] (fun m a W => ∃ (M : Nat → Nat → Bool) (b : Bool) (k : Nat), m = .bool b ∧ a = .int .i64 (k : Int) ∧ k ≤ L.length ∧ Snd L M ∧ RD L M0 M b k 0 ∧ W2.grownBy W none ∧ MatO W2.heap.size W W2.heap.size rb L.length M) (fun _ a _ => 200 - (intOf a).toNat)
            case atStart => exact ⟨M0, false, 0, rfl, rfl, Nat.zero_le _, HS0.out, RD.start _ _, HG0.out, HM0.out⟩
            case round =>
              obtain ⟨M1, b1, k, rfl, rfl, hk, hs1, hr1, hg1, hm1⟩ := hrel
              have HG3 := Lib.hid hg1
              have HM3 := Lib.hid hm1
              have HS3 := Lib.hid hs1
              have HR3 := Lib.hid hr1
              clear hs1 hr1 hg1 hm1
              by_cases hlt : k < L.length
              · have hkI : (k : Int) < (L.length : Int) := by omega
                have hk0 : (0 : Int) ≤ (k : Int) := by omega
                go_wp2_with fail
                go_loopw [9, 11] (fun m a W => ∃ (M : Nat → Nat → Bool) (b : Bool) (q : Nat), m = .bool b ∧ a = .int .i64 (q : Int) ∧ q ≤ L.length ∧ Snd L M ∧ RD L M0 M b k q ∧ W2.grownBy W none ∧ MatO W2.heap.size W W2.heap.size rb L.length M) (fun _ a _ => 200 - (intOf a).toNat)
                case atStart => exact ⟨M1, b1, 0, rfl, rfl, Nat.zero_le _, HS3.out, HR3.out, HG3.out, HM3.out⟩
                case round =>
                  clear HG3 HM3 HS3 HR3
                  obtain ⟨M, b, q, rfl, rfl, hq, hs1, hr1, hg1, hm1⟩ := hrel
                  have HG3 := Lib.hid hg1
                  have HM3 := Lib.hid hm1
                  have HS3 := Lib.hid hs1
                  have HR3 := Lib.hid hr1
                  clear hs1 hr1 hg1 hm1
                  by_cases hlq : q < L.length
                  · have hqI : (q : Int) < (L.length : Int) := by omega
                    have hq0 : (0 : Int) ≤ (q : Int) := by omega
                    obtain ⟨x, hx⟩ : ∃ x, L[k]? = some x := ⟨_, List.getElem?_eq_getElem hlt⟩
                    obtain ⟨y, hy⟩ : ∃ y, L[q]? = some y := ⟨_, List.getElem?_eq_getElem hlq⟩
                    obtain ⟨r, hr⟩ : ∃ r, rb[k]? = some r := ⟨_, List.getElem?_eq_getElem (by rw [HRB.out]; exact hlt)⟩
                    have htb := HTB.out.keep (.grown HG3.out)
                    obtain ⟨bl, ol, A2, c2, hA1, _, x0, _⟩ := cls_at htb hx
                    obtain ⟨bl', ol', A3, c3, hA2, _, y0, _⟩ := cls_at htb hy
                    subst hA1
                    simp only [Option.some.injEq, Addr.mk.injEq, and_true] at hA2
                    obtain ⟨rfl, rfl⟩ := hA2
                    obtain ⟨j0, j1, j2, j3, j4⟩ := HM3.out.row_at hr hlq
                    have HX := Lib.hid hx
                    have HY := Lib.hid hy
                    have HR := Lib.hid hr
                    have HTB3 := Lib.hid htb
                    clear hr htb
                    by_cases hx5 : x.kind = 5
                    · have hnl : liveB L k = true → liveB L q = true → unl (hdL L) (scL L) M k q = true → M k q = true := fun h => by obtain ⟨z, h1, h2⟩ := live_some h; rw [hx] at h1; cases h1; exact absurd hx5 h2
                      have HNL := Lib.hid hnl
                      rw [hx5] at x0
                      clear hx5 hnl hx hy
                      go_wp2_with fail
                      go_roundw
                      case rel => exact ⟨M, b, q + 1, rfl, by go_num, by omega, HS3.out, HR3.out.skip HNL.out, HG3.out, HM3.out⟩
                      case measure => simp [intOf]; omega
                    · have hxb : (x.kind != 5) = true := by simp [hx5]
                      by_cases hy5 : y.kind = 5
                      · have hnl : liveB L k = true → liveB L q = true → unl (hdL L) (scL L) M k q = true → M k q = true := fun _ h => by obtain ⟨z, h1, h2⟩ := live_some h; rw [hy] at h1; cases h1; exact absurd hy5 h2
                        have HNL := Lib.hid hnl
                        rw [hy5] at y0
                        clear hx5 hy5 hnl hx hy
                        go_wp2_with fail
                        go_roundw
                        case rel => exact ⟨M, b, q + 1, rfl, by go_num, by omega, HS3.out, HR3.out.skip HNL.out, HG3.out, HM3.out⟩
                        case measure => simp [intOf]; omega
                      · have hyb : (y.kind != 5) = true := by simp [hy5]
                        clear hx5 hy5 hx hy
                        cases hm : M k q
                        · rw [hm] at j1
                          have HMM := Lib.hid hm
                          clear hm
                          cases hu : unl (hdL L) (scL L) M k q
                          · have HU := Lib.hid hu
                            clear hu
                            go_wp2_with (go_at_call 30; go_must (refine (runlike_is HTW.out (by have := HN.out; omega) HX.out HY.out HU.out HTB3.out (HM3.out.mat HRB.out)).mono ?_; rintro e W5 ⟨rfl, hg5⟩; have HG5 := Lib.hid hg5; clear hg5))
                            go_roundw
                            case rel => exact ⟨M, b, q + 1, rfl, by go_num, by omega, HS3.out, HR3.out.skip (fun _ _ h => by rw [HU.out] at h; cases h), only_trans HG3.out HG5.out, HM3.out.kept HG5.out⟩
                            case measure => simp [intOf]; omega
                          · have HU := Lib.hid hu
                            clear hu
                            go_wp2_with (go_at_call 30; go_must (refine (runlike_is HTW.out (by have := HN.out; omega) HX.out HY.out HU.out HTB3.out (HM3.out.mat HRB.out)).mono ?_; rintro e W5 ⟨rfl, hg5⟩; obtain ⟨k0, k1, k2, k3, k4⟩ := (HM3.out.kept hg5).row_at HR.out hlq; have HG5 := Lib.hid hg5; clear hg5 j0 j1 j2 j3 j4 x0 y0))
                            go_roundw
                            case rel => exact ⟨setM M k q, true, q + 1, rfl, by go_num, by omega, HS3.out.put HU.out, HR3.out.mark hlt hlq HMM.out, (HM3.out.kept HG5.out).step (only_trans HG3.out HG5.out) HR.out, (HM3.out.kept HG5.out).put HR.out⟩
                            case measure => simp [intOf]; omega
                        · rw [hm] at j1
                          have HMM := Lib.hid hm
                          clear hm
                          go_wp2_with fail
                          go_roundw
                          case rel => exact ⟨M, b, q + 1, rfl, by go_num, by omega, HS3.out, HR3.out.skip (fun _ _ _ => HMM.out), HG3.out, HM3.out⟩
                          case measure => simp [intOf]; omega
                  · obtain rfl : q = L.length := by omega
                    have hqI : (L.length : Int) ≤ (L.length : Int) := Int.le_refl _
                    clear hlq hq
                    go_wp2_with fail
                    go_roundw
                    case rel => exact ⟨M, b, k + 1, rfl, by go_num, by omega, HS3.out, HR3.out.row, HG3.out, HM3.out⟩
                    case measure => simp [intOf]; omega
              · obtain rfl : k = L.length := by omega
                have hkI : (L.length : Int) ≤ (L.length : Int) := Int.le_refl _
                clear hlt hk
                go_wp2_with fail
                go_roundw
                case rel => exact ⟨M1, b1, rfl, HS3.out, fun h => by subst h; exact HR3.out.done, HG3.out, HM3.out⟩
                case measure =>
                  have e1 := HM3.out.falses HRB.out
                  have e0 := HF0.out
                  have h3 := HR3.out.less
                  rw [e1, e0]
                  cases b1 <;> simp [boolN] at h3 ⊢ <;> omega
  · have hcT := clsT_not (xs := xs) (by rw [ho]; exact h0)
    rw [ho, hcT]
    have hb : (oe != 0) = true := by simp [h0]
    clear ho hcT h0
    go_enter Try.func10, Try.ntmps10
    go_upto_region 2 with (go_at_call 28; go_must (refine (rCheck_any xs _ _ (HT.out.keep (.grown (only_alloc (only_refl _ _) _))) HXS.out).mono ?_; rw [HO.out]; rintro e W1 ⟨rfl, hg1⟩; have HG1 := Lib.hid (only_trans (only_alloc (only_refl w none) _) hg1); have hb1 := (Blk.new w 27 #[.slice none 0 0, .slice none 0 0, .slice none 0 0]).kept hg1; have HB1 := Lib.hid hb1; have f0 := hb1.frozen 0; have f1 := hb1.frozen 1; have f2 := hb1.frozen 2; have c0 := hb1.cell 0; have c1 := hb1.cell 1; have c2 := hb1.cell 2; have bl0 := hb1.lt; clear hg1 hb1))
    go_wp2_with fail
    have b3 := ((HB1.out.set_ 0 (.slice none 0 0)).set_ 1 (.slice none 0 0)).set_ 2 (.slice none 0 0)
    have hg := only_setNew (only_setNew (only_setNew HG1.out (p := ⟨w.heap.size, 0, none⟩) (Nat.le_refl _) (.slice none 0 0)) (p := ⟨w.heap.size, 1, none⟩) (Nat.le_refl _) (.slice none 0 0)) (p := ⟨w.heap.size, 2, none⟩) (Nat.le_refl _) (.slice none 0 0)
    refine bodyPost_ret (of_results (g := w.heap.size) rfl rfl b3 ⟨_, _, _, rfl⟩ ⟨_, _, _, rfl⟩ ⟨_, _, _, rfl⟩) rfl ?_
    exact ⟨⟨_, rfl, _, _, _, [], rfl, rfl, CTw.start _ _, IOwn.nil_ _ _, IOwn.nil_ _ _, by simp, by simp⟩, hg⟩
theorem rOf_any (xs : List Nd) (v : Value) (w : World) (hT : Tbl w v xs) (hxs : xs.length ≤ 1000) :
    Calls Try.prog 10 #[v] w fun e w' => (∃ tv, e = .returned (.tuple #[tv, .int .i64 (orderL xs).2]) ∧ TabV w' tv (clsT xs)) ∧ w.grownBy w' none :=
  (rOfO_any xs v w hT hxs).mono fun _ _ ⟨⟨tv, h1, h2⟩, h3⟩ => ⟨⟨tv, h1, h2.tab⟩, h3⟩
end Go.Proofs.Ytepjkoegbehojaa

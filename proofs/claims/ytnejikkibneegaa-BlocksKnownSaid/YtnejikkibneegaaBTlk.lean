/- BlocksTalk. -/
import Derived.Test.YtnejikkibneegaaBCod
namespace Go.Proofs.Ytnejikkibneegaa
open Go.RowKit

/-- A list of bytes in memory. -/
def U8A (W : World) (v : Value) (bs : List Nat) : Prop := ∃ (A : Option Addr) (c : Nat), v = .slice A bs.length c ∧ bs.length ≤ 9223372036854775807 ∧ (∀ z ∈ bs, z < 256) ∧ (bs ≠ [] → ∃ b off, A = some ⟨b, off, none⟩ ∧ ∀ (i : Nat) (z : Nat), bs[i]? = some z → W.cell? ⟨b, off + i, none⟩ = some (.int .u8 (z : Int)))
theorem U8A.at_ {W W' : World} {A : Option Addr} {n c : Nat} {bs : List Nat} (h : U8A W (.slice A n c) bs) (hg : W.grownBy W' none) {i z : Nat} (hz : bs[i]? = some z) : ∃ b off, A = some ⟨b, off, none⟩ ∧ W'.cell? ⟨b, off + i, none⟩ = some (.int .u8 (z : Int)) ∧ z < 256 := by
  obtain ⟨A', c', e, _, h2, h3⟩ := h
  injection e with e1 e2 e3
  subst e1
  obtain ⟨b, off, h4, h5⟩ := h3 (by intro e; rw [e] at hz; simp at hz)
  exact ⟨b, off, h4, cell_row (h5 i z hz) hg (fun e => by cases e), h2 z (List.mem_of_getElem? hz)⟩
theorem BOwn.at_ {base : Nat} {W : World} {A : Option Addr} {n c : Nat} {zs : List Int} (h : BOwn base W (.slice A n c) zs) {i : Nat} {z : Int} (hz : zs[i]? = some z) : ∃ b off, A = some ⟨b, off, none⟩ ∧ W.cell? ⟨b, off + i, none⟩ = some (.int .i64 z) := IB.at_ h.ib hz
theorem flow_slices {W : World} {fv : Value} {f : List Nat × List (List Nat)} (h : FlowA W fv f) : ∃ A1 n1 c1 A2 n2 c2, fv = .agg #[.slice A1 n1 c1, .slice A2 n2 c2] ∧ n1 = f.1.length ∧ n2 = f.2.length ∧ IB W (.slice A1 n1 c1) (intsN f.1) ∧ NX W (.slice A2 n2 c2) (f.2.map intsN) := by
  obtain ⟨sv, nv, rfl, hs, hn⟩ := h
  obtain ⟨A1, c1, rfl, h1⟩ := hs.slice (n := f.1.length) (by simp [intsN])
  obtain ⟨A2, c2, rfl, h2⟩ := hn.slice (n := f.2.length) (by simp)
  exact ⟨A1, _, c1, A2, _, c2, rfl, rfl, rfl, h1, h2⟩
set_option maxRecDepth 100000 in
set_option maxHeartbeats 4000000 in
theorem btalk_any (rs : List Rw) (at_ : Nat) (bs : List Nat) (v u : Value) (w : World) (hR : RowsA w v rs) (ha : at_ < 256) (hB : U8A w u bs) : Calls Try.prog 6 #[v, .int .u8 (at_ : Int), u] w fun e w' => e = .returned (.bool true) ∧ w.grownBy w' none := by
  obtain ⟨Ar, cr, rfl, _⟩ := id hR
  obtain ⟨Ab, cb, rfl, hbl, _⟩ := id hB
  have HR := Lib.hid hR
  have HB := Lib.hid hB
  have hblI : (bs.length : Int) ≤ 9223372036854775807 := by omega
  have haI : (at_ : Int) < 256 := by omega
  have ha0 : (0 : Int) ≤ (at_ : Int) := by omega
  clear hR hB
  go_enter Try.func6, Try.ntmps6
  go_wp2_with fail
  refine (works_any _).mono ?_
  rintro e w1 ⟨rfl, hg1⟩
  have HG1 := Lib.hid hg1
  clear hg1
  go_wp2_with fail
  refine (coded_any rs 0 _ _ (HR.out.kept HG1.out) (by decide)).mono ?_
  rintro e w2 ⟨cv, cs, rfl, hC, hn, hl, hg2⟩
  obtain ⟨Ac, cc, rfl, _⟩ := id hC
  have HG2 := Lib.hid (only_trans HG1.out hg2)
  have HC := Lib.hid hC
  have HL : Hid (∀ x ∈ cs, x.2.length ≤ 1048576) := Lib.hid fun x hx => by have := hl x hx; omega
  have HN := Lib.hid hn
  have hnI : (cs.length : Int) ≤ 128 := by omega
  clear HG1 hg2 hC hl hn HR
  go_wp2_with fail
  refine (blCut_any cs _ _ HC.out HL.out).mono ?_
  rintro e w3 ⟨fv, rfl, hF, hg3⟩
  obtain ⟨A1, n1, c1, A2, n2, c2, rfl, -, -, -, -⟩ := flow_slices hF
  have hg4 : w2.grownBy (w3.alloc (.cells #[.slice A1 n1 c1, .slice A2 n2 c2] 27)) none := only_alloc hg3 _
  have HG4 := Lib.hid (only_trans HG2.out hg4)
  have HC4 := Lib.hid (HC.out.kept hg4)
  clear HG2 HC hF hg3 hg4
  by_cases he : (cutA cs).2.2 = 0
  · have HK := Lib.hid (cut_ok he).1
    have h1 := HK.out.n0
    have h1I : (0 : Int) < (cs.length : Int) := by omega
    rw [he]
    go_upto_region 7 with fail
    generalize (w3.alloc (.cells #[.slice A1 n1 c1, .slice A2 n2 c2] 27)) = w4 at *
    obtain ⟨i0, hi0, hi0n⟩ : ∃ i0 : Nat, (at_ : Int) % (cs.length : Int) = (i0 : Int) ∧ i0 < cs.length := ⟨at_ % cs.length, by omega, Nat.mod_lt _ (by omega)⟩
    go_wp2_with fail
    simp only [hi0]
    clear hi0
    go_loopw [11, 12] (fun y z wr => ∃ i n : Nat, y = .int .i64 (i : Int) ∧ z = .int .i64 (n : Int) ∧ i < cs.length ∧ n ≤ cs.length ∧ w.grownBy wr none ∧ CodeA wr (.slice Ac cs.length cc) cs ∧ (n = 0 ∨ Pth cs n i0 i) ∧ (n = 0 → i = i0)) (fun _ z _ => cs.length - (intOf z).toNat)
    case atStart => exact ⟨i0, 0, rfl, rfl, hi0n, Nat.zero_le _, HG4.out, HC4.out, .inl rfl, fun _ => rfl⟩
    case round =>
      obtain ⟨i, n, rfl, rfl, hin, hnn, hg, hC, hp, hp0⟩ := hrel
      have HG := Lib.hid hg
      have HCr := Lib.hid hC
      have HP := Lib.hid hp
      have HP0 := Lib.hid hp0
      have hiI : (i : Int) < (cs.length : Int) := by omega
      have hi00 : (0 : Int) ≤ (i : Int) := by omega
      have hnn0 : (0 : Int) ≤ (n : Int) := by omega
      clear hg hC hp hp0
      by_cases hlt : n < cs.length
      · obtain ⟨x, hx⟩ : ∃ x, cs[i]? = some x := ⟨_, List.getElem?_eq_getElem hin⟩
        obtain ⟨b, off, a2, b2, c2', d2, A3, cp3, rfl, hb, hIA, m0, m1, m2, m3, m4, m5⟩ := code_at HCr.out hx
        obtain ⟨op, l⟩ := x
        dsimp only at m0
        have hta := fun w => blTalks_any op w
        obtain ⟨tb, htb⟩ : ∃ tb, talkB op = tb := ⟨_, rfl⟩
        rw [htb] at hta
        have HQ : Hid (quietN cs i = !tb) := Lib.hid (by unfold quietN; rw [hx, ← htb])
        clear hIA hx htb m1 m2 m3 m4 m5 hb
        go_wp2_with fail
        refine (hta _).mono ?_
        rintro e w5 ⟨rfl, hg5⟩
        have HG5 := Lib.hid (only_trans HG.out hg5)
        have HC5 := Lib.hid (HCr.out.kept hg5)
        clear hta hg5 m0
        cases tb with
        | true =>
          go_wp2_with fail
          go_ret
          exact ⟨rfl, HG5.out⟩
        | false =>
          have hgo := fun w hC => blGoes_any cs (.slice (some ⟨b, off, none⟩) cs.length cc) (i : Int) w hC HL.out (by have := HN.out; omega)
          rw [goesI_at] at hgo
          go_wp2_with fail
          refine (hgo _ HC5.out).mono ?_
          rintro e w6 ⟨gv, rfl, ho6, hg6⟩
          obtain ⟨gl, hgl⟩ : ∃ gl, goesN cs i = gl := ⟨_, rfl⟩
          have hgle := goesN_length (i := i) HL.out
          rw [hgl] at ho6 hgle
          obtain ⟨Ag, cg, rfl, -⟩ := id ho6.reads
          have HG6 := Lib.hid (only_trans HG5.out hg6)
          have HC6 := Lib.hid (HC5.out.kept hg6)
          have HO6 := Lib.hid ho6
          have HGL := Lib.hid hgl
          have hglI : (gl.length : Int) ≤ 1048577 := by omega
          clear hgo hg6 ho6 hgl hgle
          rcases Nat.eq_zero_or_pos gl.length with h0 | h0
          · go_wp2_with fail
            go_ret
            exact ⟨rfl, HG6.out⟩
          · have h0I : (0 : Int) < (gl.length : Int) := by omega
            have h0B : ((gl.length : Int) == 0) = false := by rw [beq_eq_false_iff_ne]; omega
            have next : Hid (∀ c : Nat, ∀ hc : c < gl.length, ∃ t : Nat, gl[c]? = some (t : Int) ∧ t < cs.length ∧ Pth cs (n + 1) i0 t) := Lib.hid fun c hc => by
              have hmem : gl[c] ∈ goesN cs i := by rw [HGL.out]; exact List.getElem_mem hc
              have hlt2 := goes_lt HK.out.jmp hmem
              have hs := sil_of HQ.out hmem hlt2.1
              refine ⟨gl[c].toNat, ?_, by omega, ?_⟩
              · rw [List.getElem?_eq_getElem hc]
                congr 1
                omega
              · rcases HP.out with hn0 | hp
                · have := HP0.out hn0
                  subst hn0
                  subst this
                  exact .one hs (by omega)
                · exact .snoc hp hs (by omega)
            by_cases hnb : n < bs.length
            · have hnbI : (n : Int) < (bs.length : Int) := by omega
              obtain ⟨z, hz⟩ : ∃ z, bs[n]? = some z := ⟨_, List.getElem?_eq_getElem hnb⟩
              obtain ⟨bb, ob, rfl, k0, hz256⟩ := HB.out.at_ HG6.out hz
              obtain ⟨c, hc, hcl⟩ : ∃ c : Nat, (z : Int) % (gl.length : Int) = (c : Int) ∧ c < gl.length := ⟨z % gl.length, by omega, Nat.mod_lt _ (by omega)⟩
              have hzI : (z : Int) < 256 := by omega
              have hz0 : (0 : Int) ≤ (z : Int) := by omega
              have hclI : (c : Int) < (gl.length : Int) := by omega
              have hc0 : (0 : Int) ≤ (c : Int) := by omega
              obtain ⟨t, ht, htn, htp⟩ := next.out c hcl
              obtain ⟨bg, og, rfl, g0⟩ := HO6.out.at_ ht
              have htI : (t : Int) < (cs.length : Int) := by omega
              have ht0 : (0 : Int) ≤ (t : Int) := by omega
              have hdl : decide ((t : Int) < 0) = false := decide_eq_false (by omega)
              have hdg : decide ((cs.length : Int) ≤ (t : Int)) = false := decide_eq_false (by omega)
              have HTP := Lib.hid htp
              clear hz ht htp
              go_wp2_with fail
              go_roundw
              case rel => exact ⟨t, n + 1, rfl, by go_num, htn, by omega, HG6.out, HC6.out, .inr HTP.out, fun h => by omega⟩
              case measure => simp [intOf]; omega
            · have hnbI : (bs.length : Int) ≤ (n : Int) := by omega
              obtain ⟨t, ht, htn, htp⟩ := next.out 0 h0
              obtain ⟨bg, og, rfl, g0⟩ := HO6.out.at_ ht
              have htI : (t : Int) < (cs.length : Int) := by omega
              have ht0 : (0 : Int) ≤ (t : Int) := by omega
              have hdl : decide ((t : Int) < 0) = false := decide_eq_false (by omega)
              have hdg : decide ((cs.length : Int) ≤ (t : Int)) = false := decide_eq_false (by omega)
              rw [Nat.add_zero] at g0
              have HTP := Lib.hid htp
              clear ht htp
              go_wp2_with fail
              go_roundw
              case rel => exact ⟨t, n + 1, rfl, by go_num, htn, by omega, HG6.out, HC6.out, .inr HTP.out, fun h => by omega⟩
              case measure => simp [intOf]; omega
      · obtain rfl : n = cs.length := by omega
        exfalso
        rcases HP.out with h | h
        · omega
        · exact HK.out.talks h
  · have he2 : ((cutA cs).2.2 != 0) = true := by simpa using he
    generalize (cutA cs).2.2 = ee at *
    generalize (cutA cs).2.1 = aa at *
    go_wp2_with fail
    go_ret
    exact ⟨rfl, HG4.out⟩
end Go.Proofs.Ytnejikkibneegaa

/- The document's answer for numbers (colloquyref02): U where bytes end, S, Small: what each answers, and what it leaves. -/
import Derived.Test.YtjjfofifooailaaDoorRefU
namespace Go.Proofs.YtjjfofifooailaaDoor
open Go.RowKit

set_option maxRecDepth 100000 in
set_option maxHeartbeats 8000000 in
theorem ru_ends {w : World} {q : Nat} {bs : List UInt8} {a bg : Nat} (h : RefR w q bs a bg) (hs : Short (bs.drop a)) (hal : a ≤ bs.length) :
    Calls Tryd.prog 58 #[.pointer (some ⟨q, 0, none⟩)] w fun e w' => e = .returned (.tuple #[.int .u64 0, .agg #[.int .i64 3, .int .i64 ((bg : Int) + (bs.length : Int))]]) ∧ w.grownBy w' (some q) ∧ RefR w' q bs bs.length bg := by
  have hql := h.lt
  have h0 : w.grownBy (w.alloc (.cells #[.int .i64 0, .int .i64 0] 47)) none := only_alloc (only_refl _ _) _
  have hb0 := Blk.new w 47 #[.int .i64 0, .int .i64 0]
  have HP := rplace_any (h.kept h0 (fun e => by cases e))
  obtain ⟨i0, hi, hz0, hz1, hz2⟩ := info_parts u8_zero_info
  have hdl : (bs.drop a).length = bs.length - a := by simp
  have hd10 : (bs.drop a).length < 10 := hs.1
  have hbs : Hid (∀ c, c < (bs.drop a).length → ∃ u, 128 ≤ u.toNat ∧ bs[a + c]? = some u ∧ (bs.drop a).take (c + 1) = (bs.drop a).take c ++ [u]) := fun c h1 => by
    have h2 : (bs.drop a)[c]? = some (bs.drop a)[c] := List.getElem?_eq_getElem h1
    refine ⟨(bs.drop a)[c], hs.2 c _ h2, ?_, List.take_succ_eq_append_getElem h1⟩
    rw [← List.getElem?_drop]; exact h2
  have hcl : Hid (∀ c, c ≤ (bs.drop a).length → ((bs.drop a).take c).length = c) := fun c hc => by rw [List.length_take]; omega
  clear hs
  go_enter Tryd.func58, Tryd.ntmps58
  go_wp2_with fail
  refine HP.mono ?_
  clear HP
  rintro e w1 ⟨rfl, hg1⟩
  have S0 := UI.start h (only_trans h0 hg1) (hb0.kept hg1)
  clear h h0 hb0 hg1
  go_wp2_with fail
  go_loopw [5] (fun vp wr => ∃ c, c ≤ (bs.drop a).length ∧ UI w q bs a bg c vp wr) (fun vp _ => 10 - (match vp with | .slice _ n _ => n | _ => 0))
  case atStart => exact ⟨0, by omega, S0⟩
  case round =>
    obtain ⟨c, hck, S⟩ := hrel
    have hlen := hcl.out c hck
    obtain ⟨A2, c2, hv⟩ := own_shape S.own
    rw [hlen] at hv
    subst hv
    clear S0
    have hcl10 : c < 10 := by omega
    have hcl' : (c : Int) < 10 := by omega
    by_cases hlt : c < (bs.drop a).length
    · obtain ⟨u, hu, hu2, hsn⟩ := hbs.out c hlt
      have HSN := Lib.hid hsn
      have hu' : 128 ≤ (u.toNat : Int) := by omega
      have H1 := rbyte_ok S.ref u hu2
      clear hsn hu hu2
      go_wp2_with fail
      refine H1.mono ?_
      clear H1
      rintro e w2 ⟨rfl, hg2, hr2⟩
      obtain ⟨m1, m2, m3, m4⟩ := S.byte hql hg2 hr2
      have hgA : w2.grownBy ((w2.alloc (.cells #[.int .i64 0, .int .i64 0] 47)).alloc (.cells #[u8V u] 5)) none := only_alloc (only_alloc (only_refl _ _) _) _
      have N1 := m1.kept hgA (fun e => by cases e)
      have N2 := only_trans m2 (only_weak hgA (some q))
      have N3 := m3.kept hgA own_none
      have N4 := m4.kept hgA
      have hB : w.heap.size ≤ ((w2.alloc (.cells #[.int .i64 0, .int .i64 0] 47)).alloc (.cells #[u8V u] 5)).heap.size := N2.size
      have hn1 : ∀ j x, [u8V u][j]? = some x → ((w2.alloc (.cells #[.int .i64 0, .int .i64 0] 47)).alloc (.cells #[u8V u] 5)).cell? ((⟨w2.heap.size + 1, 0, none⟩ : Addr).add j) = some x := by
        have : ∀ j x, [u8V u][j]? = some x → ((w2.alloc (.cells #[.int .i64 0, .int .i64 0] 47)).alloc (.cells #[u8V u] 5)).cell? ((⟨(w2.alloc (.cells #[.int .i64 0, .int .i64 0] 47)).heap.size, 0, none⟩ : Addr).add j) = some x := cell_one_new _ _ _
        rwa [show (w2.alloc (.cells #[.int .i64 0, .int .i64 0] 47)).heap.size = w2.heap.size + 1 by simp] at this
      have H3 : Hid (((bs.drop a).take c).length + 1 ≤ maxLen) := by rw [hlen]; unfold maxLen; show _ ≤ _; omega
      have H4 : Hid ((((bs.drop a).take c).length + 1) * 1 ≤ 140737488355328) := by rw [hlen]; show _ ≤ _; omega
      clear hgA S hg2 hr2 m1 m2 m3 m4
      go_wp2_with (at_builtin; go_loud (refine wpList_append_own _ rfl _ _ 49 rfl w.heap.size 5 i0 (.int .u8 0) 1 1 Tryd.underlying49 hi hz0 hz1 hz2 rfl (by decide) _ _ _ rfl N3 ⟨w2.heap.size + 1, 0, none⟩ 1 1 [u8V u] rfl rfl hn1 (by simp [Value.oneCell', u8V]) H3.out H4.out hB ?_); intro v' w3 ho hg hx; clear hx; have S2 := UI.next N1 N2 N3 N4 hql HSN.out hg ho; obtain ⟨A3, c3, hv⟩ := own_shape S2.own; rw [hcl.out (c + 1) (by omega)] at hv; subst hv)
      go_roundw
      case rel => exact ⟨c + 1, by omega, S2⟩
      case measure => simp; omega
    · have hend : a + c = bs.length := by omega
      have hp : (bg : Int) + ((a + c : Nat) : Int) = (bg : Int) + (bs.length : Int) := by rw [hend]
      have H1 := rbyte_short S.ref hend
      rw [hp] at H1
      have HE := Lib.hid hend
      clear hend hp
      generalize hpl : (bg : Int) + (bs.length : Int) = pl at *
      have HPL := Lib.hid hpl
      clear hpl
      go_wp2_with fail
      refine H1.mono ?_
      clear H1
      rintro e w2 ⟨rfl, hg2⟩
      have S2 := S.none_ hg2
      clear S hg2
      have g0 : w2.cell? ⟨w.heap.size, 0, none⟩ = some (.int .i64 0) := S2.res.cell 0
      have g1 : w2.cell? ⟨w.heap.size, 1, none⟩ = some (.int .i64 0) := S2.res.cell 1
      have f0 := S2.res.frozen 0
      have f1 := S2.res.frozen 1
      have hz := S2.res.lt
      go_wp2_with fail
      go_region
      all_goals go_wp2
      obtain ⟨e0, e1, e2, e3⟩ := res_end S2.step S2.res rfl 3 pl (.cells #[.int .i64 3, .int .i64 pl] 47)
      have e4 := e3 _ _ _ _ S2.ref hql
      rw [HE.out] at e4
      unfold setF at e0 e1 e2 e4
      exact bodyPost_ret (v := .tuple #[.int .u64 0, .agg #[.int .i64 3, .int .i64 pl]]) (by simp [results, Tryd.results58, go_sem, e0, e1]) rfl ⟨by rw [HPL.out], e2, e4⟩
end Go.Proofs.YtjjfofifooailaaDoor

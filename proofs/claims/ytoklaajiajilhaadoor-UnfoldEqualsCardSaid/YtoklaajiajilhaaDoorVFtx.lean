/- unfold: the text of a type that acts, out of those of its parts. -/
import Derived.Test.YtoklaajiajilhaaDoorVFn
import Derived.Test.YtoklaajiajilhaaDoorVGrw
import Derived.Test.YtoklaajiajilhaaDoorVOps
import Derived.Test.YtoklaajiajilhaaDoorOvs
import Derived.Test.YtoklaajiajilhaaDoorShelf
import Derived.Test.YtoklaajiajilhaaDoorRows
import Derived.Lib.ItoaLen
import Derived.Lib.LaidTab
namespace Go.Proofs.YtoklaajiajilhaaDoor
open Go.RowKit

/-- The library's table of powers of ten. -/
abbrev powN : String := Rows.unfoldEqualsRow.named.headD ""
def TabL (W : World) : Prop := Lib.TabIs Tryd.prog W powN .u64 Lib.pow10Tab
theorem tabL_kept {w w' : World} (h : TabL w) (hg : w.grownBy w' none) : TabL w' := by
  unfold TabL Lib.TabIs World.var? at h ⊢
  cases hn : Tryd.prog.globalNamed powN with
  | none => rw [hn] at h; cases h
  | some g =>
    rw [hn] at h
    simp only [Option.bind_some] at h ⊢
    cases ho : w.heap[g]? with
    | none => rw [ho] at h; cases h
    | some o =>
      rw [ho] at h
      rw [hg.block g (Array.getElem?_eq_some_iff.1 ho).1 (fun e => by cases e), ho]
      exact h
theorem join_commas : ∀ l : List (List UInt8), Lib.join l [44] = commas l
  | [] => rfl
  | [a] => by rw [Lib.join_one]; rfl
  | a :: b :: l => by
    rw [Lib.join_cons]
    have h := join_commas (b :: l)
    rw [Lib.join_cons] at h
    show a ++ Lib.joinTail [44] (b :: l) = a ++ 44 :: commas (b :: l)
    rw [← h]
    simp [Lib.joinTail]
theorem grow_only (w : World) (k : Nat) (os : Array Obj) : w.grownBy (Go.Sort.grow (w.drewN k) os) none := by
  refine ⟨rfl, rfl, rfl, by simp [Go.Sort.grow], fun i hi _ => ?_⟩
  show (w.heap ++ os)[i]? = _
  rw [Array.getElem?_append_left hi]
theorem uitoa_any (n : Int) (h0 : -9223372036854775808 ≤ n) (h1 : n ≤ 9223372036854775807) (w : World) (hL : TabL w) : Calls Tryd.prog 31 #[.int .i64 n] w fun e w' => e = .returned (strV (Lib.itoa n)) ∧ w.grownBy w' none :=
  (Any.strconv_Itoa Tryd.laysM171 n h0 h1 w hL).mono fun e w' ⟨he, k, os, hw⟩ => ⟨he, by rw [hw]; exact grow_only w k os⟩
/-- A slice that reads as texts. -/
def StrS (w : World) (v : Value) (ss : List (List UInt8)) : Prop := ∃ A c, v = .slice A ss.length c ∧ ss.length ≤ c ∧ (ss ≠ [] → ∃ b o, A = some ⟨b, o, none⟩ ∧ b < w.heap.size ∧ ∀ j s, ss[j]? = some s → w.cell? ⟨b, o + j, none⟩ = some (strV s))
theorem StrS.kept {w w' : World} {v : Value} {ss : List (List UInt8)} (h : StrS w v ss) (hg : w.grownBy w' none) : StrS w' v ss := by
  obtain ⟨A, c, rfl, hc, h2⟩ := h
  refine ⟨A, c, rfl, hc, fun hn => ?_⟩
  obtain ⟨b, o, h3, hb, h4⟩ := h2 hn
  exact ⟨b, o, h3, Nat.lt_of_lt_of_le hb hg.size, fun j s hs => Keeps.grown hg _ _ (h4 j s hs)⟩
theorem ujoin_any (ss : List (List UInt8)) (v : Value) (w : World) (h : StrS w v ss) (hl : (commas ss).length ≤ 1000000000) (hn : ss.length ≤ 1000) : Calls Tryd.prog 32 #[v, strV [44]] w fun e w' => e = .returned (strV (commas ss)) ∧ w.grownBy w' none := by
  obtain ⟨A, c, rfl, hc, h2⟩ := h
  cases ss with
  | nil => exact (Any.strings_Join_none Tryd.lays156 Tryd.Builder_Extra_156 A c _ w).mono fun e w' ⟨he, hw⟩ => ⟨he, hw ▸ only_refl _ _⟩
  | cons s ss =>
    obtain ⟨b, o, rfl, hb, hcl⟩ := h2 (by simp)
    have hj : Lib.join (((s :: ss).map fun x => (⟨x.toArray⟩ : ByteArray)).map (·.data.toList)) (⟨[44].toArray⟩ : ByteArray).data.toList = commas (s :: ss) := by
      rw [List.map_map, ← join_commas]
      show Lib.join ((s :: ss).map fun x => x) [44] = _
      rw [List.map_id']
    have hJ := Any.strings_Join Tryd.lays156 Tryd.Builder_Extra_156 b o c ((s :: ss).map fun x => (⟨x.toArray⟩ : ByteArray)) ⟨[44].toArray⟩ w (fun j x hx => ?_) hb (by rw [List.length_map]; omega) (by rw [List.length_map]; exact hc) (by rw [hj]; omega)
    · rw [hj, List.length_map] at hJ
      exact hJ.mono fun e w' ⟨he, hw⟩ => ⟨he, only_of_below hw none⟩
    · rw [List.getElem?_map] at hx
      obtain ⟨y, hy, rfl⟩ := Option.map_eq_some_iff.1 hx
      exact hcl j y hy

def payF (f : Fc) (ss : List (List UInt8)) : List UInt8 := if f.kind = 3 ∨ f.kind = 4 then [] else if f.chan then ss.headD [] else [119]
def nextF (f : Fc) (ss : List (List UInt8)) : List (List UInt8) := if f.chan then ss.tail else ss
def textF (f : Fc) (ss : List (List UInt8)) : List UInt8 := signA f.kind ++ (Lib.itoa f.prio ++ (40 :: (payF f ss ++ ([41, 91] ++ (commas (nextF f ss) ++ [93])))))

set_option maxRecDepth 100000 in
set_option maxHeartbeats 2000000 in
theorem ftext_any (f : Fc) (v : Value) (ss : List (List UInt8)) (w : World) (hL : TabL w) (hS : StrS w v ss) (hp : -9223372036854775808 ≤ f.prio ∧ f.prio ≤ 9223372036854775807) (hch : f.chan = true → ss ≠ []) (hn : ss.length ≤ 1000) (hl : (commas (nextF f ss)).length ≤ 1000000000) (hl2 : (payF f ss).length ≤ 1000000000) :
    Calls Tryd.prog 23 #[fcV f, v] w fun e w' => e = .returned (strV (textF f ss)) ∧ w.grownBy w' none := by
  obtain ⟨fn, fk, fp, fc, fx⟩ := f
  dsimp only at hp hch hl hl2
  have HS := Lib.hid hS
  obtain ⟨A, c, rfl, hc, hcl⟩ := hS
  obtain ⟨n, hnn⟩ : ∃ n, ss.length = n := ⟨_, rfl⟩
  have HNN := Lib.hid hnn
  rw [hnn] at HS hc hn ⊢
  obtain ⟨p, hp0⟩ : ∃ p, payF ⟨fn, fk, fp, fc, fx⟩ ss = p := ⟨_, rfl⟩
  obtain ⟨ns, hns⟩ : ∃ ns, nextF ⟨fn, fk, fp, fc, fx⟩ ss = ns := ⟨_, rfl⟩
  have HPF := Lib.hid hp0
  have HNS := Lib.hid hns
  have HTX : Hid (textF ⟨fn, fk, fp, fc, fx⟩ ss = signA fk ++ (Lib.itoa fp ++ (40 :: (p ++ ([41, 91] ++ (commas ns ++ [93])))))) := Lib.hid (by unfold textF; rw [hp0, hns])
  rw [hns] at hl
  rw [hp0] at hl2
  have HL := Lib.hid hL
  have HP := Lib.hid hp
  have HL1 := Lib.hid hl
  have HL2 := Lib.hid hl2
  have HN := Lib.hid hn
  have hnI : (n : Int) ≤ 1000 := by omega
  clear hnn hp0 hns hp hl hl2 hL
  go_enter Tryd.func23, Tryd.ntmps23
  go_upto_if 9 with fail
  have hg0 : w.grownBy (w.alloc (.cells (fcA ⟨fn, fk, fp, fc, fx⟩) 47)) none := only_alloc (only_refl _ _) _
  have bf : Blk (w.alloc (.cells (fcA ⟨fn, fk, fp, fc, fx⟩) 47)) w.heap.size 47 (fcA ⟨fn, fk, fp, fc, fx⟩) := Blk.new _ _ _
  generalize w.alloc (.cells (fcA ⟨fn, fk, fp, fc, fx⟩) 47) = W1 at *
  generalize w.heap.size = Bf at *
  have y1 : W1.cell? ⟨Bf, 1, none⟩ = some (.int .i64 fk) := bf.cell 1
  have y2 : W1.cell? ⟨Bf, 2, none⟩ = some (.int .i64 fp) := bf.cell 2
  have hwz : Bf ≤ W1.heap.size := Nat.le_of_lt bf.lt
  have HG0 := Lib.hid hg0
  have HBF := Lib.hid bf
  clear hg0 bf
  go_cut [5, 6] from 10 to 14 (fun u5 u6 wx => w.grownBy wx none ∧ Blk wx Bf 47 (fcA ⟨fn, fk, fp, fc, fx⟩) ∧ ∃ q, u5 = strV q ∧ q = (if fc then ss.headD [] else [119]) ∧ StrS wx u6 ns)
  case first =>
    have HSN := Lib.hid (HS.out.kept HG0.out)
    cases fc with
    | true =>
      obtain ⟨s, ss', rfl⟩ : ∃ s ss', ss = s :: ss' := by
        cases ss with
        | nil => exact absurd rfl (hch rfl)
        | cons s ss' => exact ⟨s, ss', rfl⟩
      obtain ⟨b, o, rfl, hb, hcs⟩ := hcl (by simp)
      have z0 : W1.cell? ⟨b, o, none⟩ = some (strV s) := Keeps.grown HG0.out _ _ (hcs 0 s rfl)
      have hnn : ss'.length + 1 = n := HNN.out
      have hl0 : (0 : Int) < (n : Int) := by omega
      have hl1 : (1 : Int) ≤ (n : Int) := by omega
      have hl2 : (n : Int) ≤ (c : Int) := by omega
      have HST : Hid (StrS W1 (.slice (if c = 1 then some ⟨b, o, none⟩ else some ⟨b, o + 1, none⟩) (n - 1) (c - 1)) ss') := Lib.hid ⟨_, _, by rw [show n - 1 = ss'.length by omega], by omega, fun hne => by
        have h1 : ss'.length ≠ 0 := fun e => hne (List.length_eq_zero_iff.1 e)
        rw [if_neg (by omega)]
        exact ⟨b, o + 1, rfl, Nat.lt_of_lt_of_le hb hwz, fun j x hx => by rw [Nat.add_assoc, Nat.add_comm 1 j]; exact Keeps.grown HG0.out _ _ (hcs (j + 1) x hx)⟩⟩
      have hnx : ss' = ns := HNS.out
      clear hcs hcl hch HSN hnn
      go_wp2_with fail
      go_quiet (fail)
      revert HST
      generalize (if c = 1 then some (⟨b, o, none⟩ : Addr) else some ⟨b, o + 1, none⟩) = A7
      intro HST
      go_wp2_with fail
      go_meet
      exact ⟨only_drewN HG0.out _, HBF.out.drewN _, s, rfl, rfl, by rw [← hnx]; exact HST.out.kept (only_drewN (only_refl _ _) _)⟩
    | false =>
      go_wp2_with fail
      go_meet
      exact ⟨HG0.out, HBF.out, _, rfl, rfl, by rw [← HNS.out]; exact HSN.out⟩
  case rest =>
    obtain ⟨hg2, hb2, q, rfl, hq, hsn⟩ := hcut
    have HQ := Lib.hid hq
    have HSN := Lib.hid hsn
    have HG2 := Lib.hid hg2
    have HB2 := Lib.hid hb2
    have x1 : wc.cell? ⟨Bf, 1, none⟩ = some (.int .i64 fk) := hb2.cell 1
    have x2 : wc.cell? ⟨Bf, 2, none⟩ = some (.int .i64 fp) := hb2.cell 2
    obtain ⟨A6, c6, rfl, _, _⟩ := hsn
    clear hq hcl hch hg2 hb2 y1 y2 HG0 HBF
    obtain ⟨m, hm⟩ : ∃ m, ns.length = m := ⟨_, rfl⟩
    have HM := Lib.hid hm
    rw [hm] at HSN ⊢
    have hI := Lib.itoa_length_le fp HP.out.1 HP.out.2
    have hS3 : (signA fk).length ≤ 1 := by
      unfold signA
      repeat' split
      all_goals simp
    have hmN : ns.length ≤ 1000 := by
      have := HNS.out
      have h2 := HN.out
      have h3 := HNN.out
      rw [← this]
      unfold nextF
      dsimp only
      split
      · rw [List.length_tail]; omega
      · omega
    have HJO : Hid (∀ W, wc.grownBy W none → Calls Tryd.prog 32 #[.slice A6 m c6, strV [44]] W fun e w' => e = .returned (strV (commas ns)) ∧ W.grownBy w' none) := Lib.hid fun W hW => ujoin_any ns _ W (HSN.out.kept hW) (by have := HL1.out; omega) hmN
    have HIT : Hid (∀ W, wc.grownBy W none → Calls Tryd.prog 31 #[.int .i64 fp] W fun e w' => e = .returned (strV (Lib.itoa fp)) ∧ W.grownBy w' none) := Lib.hid fun W hW => uitoa_any fp HP.out.1 HP.out.2 W (tabL_kept (tabL_kept HL.out HG2.out) hW)
    have HSI : Hid (∀ W, Calls Tryd.prog 28 #[.int .i64 fk] W fun e w' => e = .returned (strV (signA fk)) ∧ W.grownBy w' none) := Lib.hid fun W => sign_any fk W
    have HPQ : Hid (p = if fk = 3 ∨ fk = 4 then [] else q) := Lib.hid (by rw [← HPF.out, HQ.out]; rfl)
    have hc1 := HL1.out
    have hc2 := HL2.out
    obtain ⟨js, hjs⟩ : ∃ js, commas ns = js := ⟨_, rfl⟩
    obtain ⟨di, hdi⟩ : ∃ di, Lib.itoa fp = di := ⟨_, rfl⟩
    obtain ⟨sg, hsg⟩ : ∃ sg, signA fk = sg := ⟨_, rfl⟩
    rw [hjs] at HJO HTX hc1
    rw [hdi] at HIT HTX hI
    rw [hsg] at HSI HTX hS3
    clear hjs hdi hsg hm hmN
    have h3 : (fk = 3 ∧ p = []) ∨ (fk = 4 ∧ p = []) ∨ (fk ≠ 3 ∧ fk ≠ 4 ∧ p = q) := by
      by_cases k3 : fk = 3
      · exact .inl ⟨k3, by rw [HPQ.out, if_pos (.inl k3)]⟩
      · by_cases k4 : fk = 4
        · exact .inr (.inl ⟨k4, by rw [HPQ.out, if_pos (.inr k4)]⟩)
        · exact .inr (.inr ⟨k3, k4, by rw [HPQ.out, if_neg (by omega)]⟩)
    clear HPQ HQ HPF
    rcases h3 with ⟨k3, hpq⟩ | ⟨k3, hpq⟩ | ⟨k3, k4, hpq⟩
    · have HPQ2 := Lib.hid hpq
      clear hpq
      subst k3
      go_upto_region 6 with fail
      refine region_known (by kernel_rfl)
        [(23, .pointer (some ⟨Bf, 1, none⟩)), (24, .int .i64 3), (25, strV sg), (26, .pointer (some ⟨Bf, 2, none⟩)), (27, .int .i64 fp), (28, strV di), (29, strV (sg ++ di)), (30, strV ((sg ++ di) ++ [40])), (31, strV p), (32, strV (((sg ++ di) ++ [40]) ++ p)), (33, strV ((((sg ++ di) ++ [40]) ++ p) ++ [41, 91])), (34, .slice A6 m c6), (35, strV js), (36, strV (((((sg ++ di) ++ [40]) ++ p) ++ [41, 91]) ++ js)), (37, strV ((((((sg ++ di) ++ [40]) ++ p) ++ [41, 91]) ++ js) ++ [93])), (4, strV ((((((sg ++ di) ++ [40]) ++ p) ++ [41, 91]) ++ js) ++ [93]))]
        [(2, .pointer (some ⟨Bf, 0, none⟩)), (5, strV p), (6, .slice A6 m c6)]
        (by kernel_rfl) [23, 24, 25, 26, 27, 28, 29, 30, 31, 32, 33, 34, 35, 36, 37, 4] (by kernel_rfl) (by kernel_rfl) (by decide) (by kernel_rfl) ⟨rfl, by rw [HPQ2.out]; rfl, rfl, trivial⟩ ?hops ?hQ
      case hops =>
        exact ⟨
        og (t := 23) (c := .pointer (some ⟨Bf, 1, none⟩)) rfl (by kernel_rfl) (ov_fld_face (i := 1) (by decide) rfl (by kernel_rfl)),
        og (t := 24) (c := .int .i64 3) rfl (by kernel_rfl) (ov_load_int rfl (by kernel_rfl) x1),
        og (t := 25) (c := strV sg) rfl (by kernel_rfl) (ov_call1 rfl (by kernel_rfl) (fun W => by kernel_rfl) (fun W _ => HSI.out W)),
        og (t := 26) (c := .pointer (some ⟨Bf, 2, none⟩)) rfl (by kernel_rfl) (ov_fld_face (i := 2) (by decide) rfl (by kernel_rfl)),
        og (t := 27) (c := .int .i64 fp) rfl (by kernel_rfl) (ov_load_int rfl (by kernel_rfl) x2),
        og (t := 28) (c := strV di) rfl (by kernel_rfl) (ov_call1 rfl (by kernel_rfl) (fun W => by kernel_rfl) (fun W hg => HIT.out W hg)),
        og (t := 29) (c := strV (sg ++ di)) rfl (by kernel_rfl) (ov_cat rfl (by kernel_rfl) (by kernel_rfl) (by (try simp only [List.length_append, List.length_cons, List.length_nil]); omega)),
        og (t := 30) (c := strV ((sg ++ di) ++ [40])) rfl (by kernel_rfl) (ov_cat_c (b := [40]) rfl (by kernel_rfl) (by (try simp only [List.length_append, List.length_cons, List.length_nil]); omega)),
        og (t := 31) (c := strV p) rfl (by kernel_rfl) (ov_move rfl (by kernel_rfl)),
        og (t := 32) (c := strV (((sg ++ di) ++ [40]) ++ p)) rfl (by kernel_rfl) (ov_cat rfl (by kernel_rfl) (by kernel_rfl) (by (try simp only [List.length_append, List.length_cons, List.length_nil]); omega)),
        og (t := 33) (c := strV ((((sg ++ di) ++ [40]) ++ p) ++ [41, 91])) rfl (by kernel_rfl) (ov_cat_c (b := [41, 91]) rfl (by kernel_rfl) (by (try simp only [List.length_append, List.length_cons, List.length_nil]); omega)),
        og (t := 34) (c := .slice A6 m c6) rfl (by kernel_rfl) (ov_move rfl (by kernel_rfl)),
        og (t := 35) (c := strV js) rfl (by kernel_rfl) (ov_call1c (d := strV [44]) rfl (by kernel_rfl) (fun W => by kernel_rfl) (fun W hg => HJO.out W hg)),
        og (t := 36) (c := strV (((((sg ++ di) ++ [40]) ++ p) ++ [41, 91]) ++ js)) rfl (by kernel_rfl) (ov_cat rfl (by kernel_rfl) (by kernel_rfl) (by (try simp only [List.length_append, List.length_cons, List.length_nil]); omega)),
        og (t := 37) (c := strV ((((((sg ++ di) ++ [40]) ++ p) ++ [41, 91]) ++ js) ++ [93])) rfl (by kernel_rfl) (ov_cat_c (b := [93]) rfl (by kernel_rfl) (by (try simp only [List.length_append, List.length_cons, List.length_nil]); omega)),
        og (t := 4) (c := strV ((((((sg ++ di) ++ [40]) ++ p) ++ [41, 91]) ++ js) ++ [93])) rfl (by kernel_rfl) (ov_assign rfl (by kernel_rfl)), trivial⟩
      case hQ =>
        intro vs W hg hv
        have hv4 := hv 4 (strV ((((((sg ++ di) ++ [40]) ++ p) ++ [41, 91]) ++ js) ++ [93])) (by kernel_rfl) (by decide)
        clear hv x1 x2
        have HV := Lib.hid hv4
        have HGW := Lib.hid (only_trans HG2.out hg)
        clear hv4 hg
        simp only [List.foldl_cons, List.foldl_nil, List.setIfInBounds_toArray, List.set_cons_zero, List.set_cons_succ]
        go_wp2_with fail
        go_ret
        refine ⟨?_, HGW.out⟩
        rw [HTX.out]
        show Ending.returned (vs 4) = _
        rw [HV.out]
        simp
    · have HPQ2 := Lib.hid hpq
      clear hpq
      subst k3
      go_upto_region 6 with fail
      refine region_known (by kernel_rfl)
        [(23, .pointer (some ⟨Bf, 1, none⟩)), (24, .int .i64 4), (25, strV sg), (26, .pointer (some ⟨Bf, 2, none⟩)), (27, .int .i64 fp), (28, strV di), (29, strV (sg ++ di)), (30, strV ((sg ++ di) ++ [40])), (31, strV p), (32, strV (((sg ++ di) ++ [40]) ++ p)), (33, strV ((((sg ++ di) ++ [40]) ++ p) ++ [41, 91])), (34, .slice A6 m c6), (35, strV js), (36, strV (((((sg ++ di) ++ [40]) ++ p) ++ [41, 91]) ++ js)), (37, strV ((((((sg ++ di) ++ [40]) ++ p) ++ [41, 91]) ++ js) ++ [93])), (4, strV ((((((sg ++ di) ++ [40]) ++ p) ++ [41, 91]) ++ js) ++ [93]))]
        [(2, .pointer (some ⟨Bf, 0, none⟩)), (5, strV p), (6, .slice A6 m c6)]
        (by kernel_rfl) [23, 24, 25, 26, 27, 28, 29, 30, 31, 32, 33, 34, 35, 36, 37, 4] (by kernel_rfl) (by kernel_rfl) (by decide) (by kernel_rfl) ⟨rfl, by rw [HPQ2.out]; rfl, rfl, trivial⟩ ?hops ?hQ
      case hops =>
        exact ⟨
        og (t := 23) (c := .pointer (some ⟨Bf, 1, none⟩)) rfl (by kernel_rfl) (ov_fld_face (i := 1) (by decide) rfl (by kernel_rfl)),
        og (t := 24) (c := .int .i64 4) rfl (by kernel_rfl) (ov_load_int rfl (by kernel_rfl) x1),
        og (t := 25) (c := strV sg) rfl (by kernel_rfl) (ov_call1 rfl (by kernel_rfl) (fun W => by kernel_rfl) (fun W _ => HSI.out W)),
        og (t := 26) (c := .pointer (some ⟨Bf, 2, none⟩)) rfl (by kernel_rfl) (ov_fld_face (i := 2) (by decide) rfl (by kernel_rfl)),
        og (t := 27) (c := .int .i64 fp) rfl (by kernel_rfl) (ov_load_int rfl (by kernel_rfl) x2),
        og (t := 28) (c := strV di) rfl (by kernel_rfl) (ov_call1 rfl (by kernel_rfl) (fun W => by kernel_rfl) (fun W hg => HIT.out W hg)),
        og (t := 29) (c := strV (sg ++ di)) rfl (by kernel_rfl) (ov_cat rfl (by kernel_rfl) (by kernel_rfl) (by (try simp only [List.length_append, List.length_cons, List.length_nil]); omega)),
        og (t := 30) (c := strV ((sg ++ di) ++ [40])) rfl (by kernel_rfl) (ov_cat_c (b := [40]) rfl (by kernel_rfl) (by (try simp only [List.length_append, List.length_cons, List.length_nil]); omega)),
        og (t := 31) (c := strV p) rfl (by kernel_rfl) (ov_move rfl (by kernel_rfl)),
        og (t := 32) (c := strV (((sg ++ di) ++ [40]) ++ p)) rfl (by kernel_rfl) (ov_cat rfl (by kernel_rfl) (by kernel_rfl) (by (try simp only [List.length_append, List.length_cons, List.length_nil]); omega)),
        og (t := 33) (c := strV ((((sg ++ di) ++ [40]) ++ p) ++ [41, 91])) rfl (by kernel_rfl) (ov_cat_c (b := [41, 91]) rfl (by kernel_rfl) (by (try simp only [List.length_append, List.length_cons, List.length_nil]); omega)),
        og (t := 34) (c := .slice A6 m c6) rfl (by kernel_rfl) (ov_move rfl (by kernel_rfl)),
        og (t := 35) (c := strV js) rfl (by kernel_rfl) (ov_call1c (d := strV [44]) rfl (by kernel_rfl) (fun W => by kernel_rfl) (fun W hg => HJO.out W hg)),
        og (t := 36) (c := strV (((((sg ++ di) ++ [40]) ++ p) ++ [41, 91]) ++ js)) rfl (by kernel_rfl) (ov_cat rfl (by kernel_rfl) (by kernel_rfl) (by (try simp only [List.length_append, List.length_cons, List.length_nil]); omega)),
        og (t := 37) (c := strV ((((((sg ++ di) ++ [40]) ++ p) ++ [41, 91]) ++ js) ++ [93])) rfl (by kernel_rfl) (ov_cat_c (b := [93]) rfl (by kernel_rfl) (by (try simp only [List.length_append, List.length_cons, List.length_nil]); omega)),
        og (t := 4) (c := strV ((((((sg ++ di) ++ [40]) ++ p) ++ [41, 91]) ++ js) ++ [93])) rfl (by kernel_rfl) (ov_assign rfl (by kernel_rfl)), trivial⟩
      case hQ =>
        intro vs W hg hv
        have hv4 := hv 4 (strV ((((((sg ++ di) ++ [40]) ++ p) ++ [41, 91]) ++ js) ++ [93])) (by kernel_rfl) (by decide)
        clear hv x1 x2
        have HV := Lib.hid hv4
        have HGW := Lib.hid (only_trans HG2.out hg)
        clear hv4 hg
        simp only [List.foldl_cons, List.foldl_nil, List.setIfInBounds_toArray, List.set_cons_zero, List.set_cons_succ]
        go_wp2_with fail
        go_ret
        refine ⟨?_, HGW.out⟩
        rw [HTX.out]
        show Ending.returned (vs 4) = _
        rw [HV.out]
        simp
    · have HPQ2 := Lib.hid hpq
      clear hpq
      have b3 : (fk == 3) = false := by simpa using k3
      have b4 : (fk == 4) = false := by simpa using k4
      go_upto_region 6 with fail
      refine region_known (by kernel_rfl)
        [(23, .pointer (some ⟨Bf, 1, none⟩)), (24, .int .i64 fk), (25, strV sg), (26, .pointer (some ⟨Bf, 2, none⟩)), (27, .int .i64 fp), (28, strV di), (29, strV (sg ++ di)), (30, strV ((sg ++ di) ++ [40])), (31, strV p), (32, strV (((sg ++ di) ++ [40]) ++ p)), (33, strV ((((sg ++ di) ++ [40]) ++ p) ++ [41, 91])), (34, .slice A6 m c6), (35, strV js), (36, strV (((((sg ++ di) ++ [40]) ++ p) ++ [41, 91]) ++ js)), (37, strV ((((((sg ++ di) ++ [40]) ++ p) ++ [41, 91]) ++ js) ++ [93])), (4, strV ((((((sg ++ di) ++ [40]) ++ p) ++ [41, 91]) ++ js) ++ [93]))]
        [(2, .pointer (some ⟨Bf, 0, none⟩)), (5, strV p), (6, .slice A6 m c6)]
        (by kernel_rfl) [23, 24, 25, 26, 27, 28, 29, 30, 31, 32, 33, 34, 35, 36, 37, 4] (by kernel_rfl) (by kernel_rfl) (by decide) (by kernel_rfl) ⟨rfl, by rw [HPQ2.out]; rfl, rfl, trivial⟩ ?hops ?hQ
      case hops =>
        exact ⟨
        og (t := 23) (c := .pointer (some ⟨Bf, 1, none⟩)) rfl (by kernel_rfl) (ov_fld_face (i := 1) (by decide) rfl (by kernel_rfl)),
        og (t := 24) (c := .int .i64 fk) rfl (by kernel_rfl) (ov_load_int rfl (by kernel_rfl) x1),
        og (t := 25) (c := strV sg) rfl (by kernel_rfl) (ov_call1 rfl (by kernel_rfl) (fun W => by kernel_rfl) (fun W _ => HSI.out W)),
        og (t := 26) (c := .pointer (some ⟨Bf, 2, none⟩)) rfl (by kernel_rfl) (ov_fld_face (i := 2) (by decide) rfl (by kernel_rfl)),
        og (t := 27) (c := .int .i64 fp) rfl (by kernel_rfl) (ov_load_int rfl (by kernel_rfl) x2),
        og (t := 28) (c := strV di) rfl (by kernel_rfl) (ov_call1 rfl (by kernel_rfl) (fun W => by kernel_rfl) (fun W hg => HIT.out W hg)),
        og (t := 29) (c := strV (sg ++ di)) rfl (by kernel_rfl) (ov_cat rfl (by kernel_rfl) (by kernel_rfl) (by (try simp only [List.length_append, List.length_cons, List.length_nil]); omega)),
        og (t := 30) (c := strV ((sg ++ di) ++ [40])) rfl (by kernel_rfl) (ov_cat_c (b := [40]) rfl (by kernel_rfl) (by (try simp only [List.length_append, List.length_cons, List.length_nil]); omega)),
        og (t := 31) (c := strV p) rfl (by kernel_rfl) (ov_move rfl (by kernel_rfl)),
        og (t := 32) (c := strV (((sg ++ di) ++ [40]) ++ p)) rfl (by kernel_rfl) (ov_cat rfl (by kernel_rfl) (by kernel_rfl) (by (try simp only [List.length_append, List.length_cons, List.length_nil]); omega)),
        og (t := 33) (c := strV ((((sg ++ di) ++ [40]) ++ p) ++ [41, 91])) rfl (by kernel_rfl) (ov_cat_c (b := [41, 91]) rfl (by kernel_rfl) (by (try simp only [List.length_append, List.length_cons, List.length_nil]); omega)),
        og (t := 34) (c := .slice A6 m c6) rfl (by kernel_rfl) (ov_move rfl (by kernel_rfl)),
        og (t := 35) (c := strV js) rfl (by kernel_rfl) (ov_call1c (d := strV [44]) rfl (by kernel_rfl) (fun W => by kernel_rfl) (fun W hg => HJO.out W hg)),
        og (t := 36) (c := strV (((((sg ++ di) ++ [40]) ++ p) ++ [41, 91]) ++ js)) rfl (by kernel_rfl) (ov_cat rfl (by kernel_rfl) (by kernel_rfl) (by (try simp only [List.length_append, List.length_cons, List.length_nil]); omega)),
        og (t := 37) (c := strV ((((((sg ++ di) ++ [40]) ++ p) ++ [41, 91]) ++ js) ++ [93])) rfl (by kernel_rfl) (ov_cat_c (b := [93]) rfl (by kernel_rfl) (by (try simp only [List.length_append, List.length_cons, List.length_nil]); omega)),
        og (t := 4) (c := strV ((((((sg ++ di) ++ [40]) ++ p) ++ [41, 91]) ++ js) ++ [93])) rfl (by kernel_rfl) (ov_assign rfl (by kernel_rfl)), trivial⟩
      case hQ =>
        intro vs W hg hv
        have hv4 := hv 4 (strV ((((((sg ++ di) ++ [40]) ++ p) ++ [41, 91]) ++ js) ++ [93])) (by kernel_rfl) (by decide)
        clear hv x1 x2
        have HV := Lib.hid hv4
        have HGW := Lib.hid (only_trans HG2.out hg)
        clear hv4 hg
        simp only [List.foldl_cons, List.foldl_nil, List.setIfInBounds_toArray, List.set_cons_zero, List.set_cons_succ]
        go_wp2_with fail
        go_ret
        refine ⟨?_, HGW.out⟩
        rw [HTX.out]
        show Ending.returned (vs 4) = _
        rw [HV.out]
        simp
end Go.Proofs.YtoklaajiajilhaaDoor

/- Texts joined for the claim's sake: RefC, RefU, RefV, RefS. -/
import Derived.Test.YtmbdaenjeeklfaaDoorZIbF
import Derived.Test.YtmbdaenjeeklfaaDoorZInQ
import Derived.Test.YtmbdaenjeeklfaaDoorZIbD
import Derived.Deep.DeepCutAuto
import Derived.Deep.CutBlock
/- The document's answer for readers (colloquyref01): Byte and Part: what each answers, and what it leaves. -/
namespace Go.Proofs.YtmbdaenjeeklfaaDoor
open Go.RowKit

/-- The result's fault is laid into the block that was made for it first. -/
theorem res_end {w w1 : World} {row : Option Nat} {cs : Array Value} (hg1 : w.grownBy w1 row) (hb1 : Blk w1 w.heap.size 48 cs) (hc : cs.size = 2) (c x : Int) (o : Obj) :
    (((setF w1 w.heap.size c x).alloc o).drew).cell? ⟨w.heap.size, 0, none⟩ = some (.int .i64 c) ∧ (((setF w1 w.heap.size c x).alloc o).drew).cell? ⟨w.heap.size, 1, none⟩ = some (.int .i64 x) ∧
    w.grownBy (((setF w1 w.heap.size c x).alloc o).drew) row ∧
    (∀ q bs a bg, RefR w1 q bs a bg → q < w.heap.size → RefR (((setF w1 w.heap.size c x).alloc o).drew) q bs a bg) := by
  have hF := setF_blk hb1 hc c x
  have hS : w1.grownBy (setF w1 w.heap.size c x) (some w.heap.size) := only_setCell (only_setCell (only_refl w1 (some w.heap.size)) (p := ⟨w.heap.size, 0, none⟩) rfl (.int .i64 c)) (p := ⟨w.heap.size, 1, none⟩) rfl (.int .i64 x)
  have hg := setF_only hg1 (Nat.le_refl _) c x
  generalize setF w1 w.heap.size c x = W at *
  have hF2 : Blk ((W.alloc o).drew) w.heap.size 48 #[.int .i64 c, .int .i64 x] := (hF.alloc o).drew
  have hS2 : w1.grownBy ((W.alloc o).drew) (some w.heap.size) := only_drew (only_alloc hS o)
  exact ⟨hF2.cell 0, hF2.cell 1, only_drew (only_alloc hg o), fun q bs a bg hq hl => hq.kept hS2 (fun e => by injection e with e; omega)⟩

/-- The same where the new reader is boxed behind it. -/
theorem part_res_end {w w1 : World} {row : Option Nat} {cs : Array Value} (hg1 : w.grownBy w1 row) (hb1 : Blk w1 w.heap.size 48 cs) (hc : cs.size = 2) (o : Obj) (str : ByteArray) (bg : Nat) (hs : bg + str.size ≤ 4611686018427387904) :
    ((((setF w1 w.heap.size 0 0).alloc o).alloc (.cells #[.string str, .int .i64 0, .int .i64 (bg : Int)] 42)).drew).cell? ⟨w.heap.size, 0, none⟩ = some (.int .i64 0) ∧
    ((((setF w1 w.heap.size 0 0).alloc o).alloc (.cells #[.string str, .int .i64 0, .int .i64 (bg : Int)] 42)).drew).cell? ⟨w.heap.size, 1, none⟩ = some (.int .i64 0) ∧
    w.grownBy ((((setF w1 w.heap.size 0 0).alloc o).alloc (.cells #[.string str, .int .i64 0, .int .i64 (bg : Int)] 42)).drew) row ∧
    (∀ q bs a bg', RefR w1 q bs a bg' → q < w.heap.size → RefR ((((setF w1 w.heap.size 0 0).alloc o).alloc (.cells #[.string str, .int .i64 0, .int .i64 (bg : Int)] 42)).drew) q bs a bg') ∧
    RefR ((((setF w1 w.heap.size 0 0).alloc o).alloc (.cells #[.string str, .int .i64 0, .int .i64 (bg : Int)] 42)).drew) (w1.heap.size + 1) str.data.toList 0 bg := by
  have hF := setF_blk hb1 hc 0 0
  have hS : w1.grownBy (setF w1 w.heap.size 0 0) (some w.heap.size) := only_setCell (only_setCell (only_refl w1 (some w.heap.size)) (p := ⟨w.heap.size, 0, none⟩) rfl (.int .i64 0)) (p := ⟨w.heap.size, 1, none⟩) rfl (.int .i64 0)
  have hg := setF_only hg1 (Nat.le_refl _) 0 0
  have hz : (setF w1 w.heap.size 0 0).heap.size = w1.heap.size := by simp [setF, World.setCell]
  generalize setF w1 w.heap.size 0 0 = W at *
  have hz2 : (W.alloc o).heap.size = w1.heap.size + 1 := by simp [hz]
  have hn := RefR.new str (W.alloc o) bg hs
  rw [hz2] at hn
  have hF2 := (hF.alloc o).alloc (.cells #[.string str, .int .i64 0, .int .i64 (bg : Int)] 42)
  have hS2 := only_alloc (only_alloc hS o) (.cells #[.string str, .int .i64 0, .int .i64 (bg : Int)] 42)
  have hg2 := only_alloc (only_alloc hg o) (.cells #[.string str, .int .i64 0, .int .i64 (bg : Int)] 42)
  generalize (W.alloc o).alloc (.cells #[.string str, .int .i64 0, .int .i64 (bg : Int)] 42) = V at *
  have hF3 : Blk V.drew w.heap.size 48 #[.int .i64 0, .int .i64 0] := hF2.drew
  exact ⟨hF3.cell 0, hF3.cell 1, only_drew hg2, fun q bs a bg' hq hl => hq.kept (only_drew hS2) (fun e => by injection e with e; omega), hn.kept (only_drew (only_refl V none)) (fun e => by cases e)⟩

set_option maxRecDepth 100000 in
set_option maxHeartbeats 1000000 in
theorem rbyte_ok {w : World} {q a bg : Nat} {bs : List UInt8} (h : RefR w q bs a bg) (u : UInt8) (hu : bs[a]? = some u) :
    Calls Tryd.prog 45 #[.pointer (some ⟨q, 0, none⟩)] w fun e w' => e = .returned (.tuple #[.int .u8 (u.toNat : Int), .agg #[.int .i64 0, .int .i64 0]]) ∧ w.grownBy w' (some q) ∧ RefR w' q bs (a + 1) bg := by
  have h0 : w.grownBy (w.alloc (.cells #[.int .i64 0, .int .i64 0] 48)) none := only_alloc (only_refl _ _) _
  have hql := h.lt
  have hR := h.kept h0 (fun e => by cases e)
  have hal : a < bs.length := (List.getElem?_eq_some_iff.1 hu).1
  have hl : (bs.drop a).take 1 = [u] := by
    rw [List.take_one, List.head?_drop, hu]
    rfl
  have H0 := rtake_ok hR 1 (by omega)
  rw [hl] at H0
  have H : Calls Tryd.prog 63 #[.pointer (some ⟨q, 0, none⟩), .int .i64 1] (w.alloc (.cells #[.int .i64 0, .int .i64 0] 48)) fun e w' => e = .returned (.tuple #[.string ⟨#[u]⟩, .agg #[.int .i64 0, .int .i64 0]]) ∧ (w.alloc (.cells #[.int .i64 0, .int .i64 0] 48)).grownBy w' (some q) ∧ RefR w' q bs (a + 1) bg := H0
  have hb0 := Blk.new w 48 #[.int .i64 0, .int .i64 0]
  clear H0 hl
  go_enter Tryd.func45, Tryd.ntmps45
  go_wp2_with fail
  refine H.mono ?_
  rintro e w1 ⟨rfl, h1, hr1⟩
  have hb1 := hb0.grown h1 (fun e => by injection e with e; omega)
  have k0 : w1.cell? ⟨w.heap.size, 0, none⟩ = some (.int .i64 0) := hb1.cell 0
  have k1 : w1.cell? ⟨w.heap.size, 1, none⟩ = some (.int .i64 0) := hb1.cell 1
  have f0 := hb1.frozen 0
  have f1 := hb1.frozen 1
  have hz := hb1.lt
  go_wp2_with fail
  go_region
  all_goals go_wp2
  obtain ⟨e0, e1, e2, e3⟩ := res_end (only_trans (only_weak h0 _) h1) hb1 rfl 0 0 (.cells #[.int .i64 0, .int .i64 0] 48)
  have e4 := e3 _ _ _ _ hr1 hql
  unfold setF at e0 e1 e2 e4
  exact bodyPost_ret (v := .tuple #[.int .u8 (u.toNat : Int), .agg #[.int .i64 0, .int .i64 0]]) (by simp [results, Tryd.results45, go_sem, e0, e1]; rfl) rfl ⟨rfl, e2, e4⟩

set_option maxRecDepth 100000 in
set_option maxHeartbeats 1000000 in
theorem rbyte_short {w : World} {q a bg : Nat} {bs : List UInt8} (h : RefR w q bs a bg) (ha : a = bs.length) :
    Calls Tryd.prog 45 #[.pointer (some ⟨q, 0, none⟩)] w (RFault (.int .u8 0) 3 ((bg : Int) + (a : Int)) w) := by
  have h0 : w.grownBy (w.alloc (.cells #[.int .i64 0, .int .i64 0] 48)) none := only_alloc (only_refl _ _) _
  have hR := h.kept h0 (fun e => by cases e)
  have H := rtake_short hR 1 (by omega)
  have hb0 := Blk.new w 48 #[.int .i64 0, .int .i64 0]
  generalize hx : (bg : Int) + (a : Int) = x at *
  clear hx ha
  go_enter Tryd.func45, Tryd.ntmps45
  go_wp2_with fail
  refine H.mono ?_
  rintro e w1 ⟨rfl, h1⟩
  have hb1 := hb0.kept h1
  have k0 : w1.cell? ⟨w.heap.size, 0, none⟩ = some (.int .i64 0) := hb1.cell 0
  have k1 : w1.cell? ⟨w.heap.size, 1, none⟩ = some (.int .i64 0) := hb1.cell 1
  have f0 := hb1.frozen 0
  have f1 := hb1.frozen 1
  have hz := hb1.lt
  go_wp2_with fail
  go_region
  all_goals go_wp2
  obtain ⟨e0, e1, e2, _⟩ := res_end (only_trans h0 h1) hb1 rfl 3 x (.cells #[.int .i64 3, .int .i64 x] 48)
  unfold setF at e0 e1 e2
  exact bodyPost_ret (v := .tuple #[.int .u8 0, .agg #[.int .i64 3, .int .i64 x]]) (by simp [results, Tryd.results45, go_sem, e0, e1]) rfl ⟨rfl, e2⟩

/-- What Part of the document's reader leaves where there are n bytes. -/
def RPartOk (q : Nat) (bs : List UInt8) (a bg n : Nat) (w : World) (e : Ending) (w' : World) : Prop :=
  ∃ p, e = .returned (.tuple #[.pointer (some ⟨p, 0, none⟩), .agg #[.int .i64 0, .int .i64 0]]) ∧ w.heap.size ≤ p ∧ w.grownBy w' (some q) ∧ RefR w' q bs (a + n) bg ∧ RefR w' p ((bs.drop a).take n) 0 (bg + a)

end Go.Proofs.YtmbdaenjeeklfaaDoor

/- The document's answer for numbers (colloquyref02): U: what it answers, and what it leaves. -/
namespace Go.Proofs.YtmbdaenjeeklfaaDoor
open Go.RowKit

theorem own_none {v : Value} : v.ownBlock = none ∨ v.ownBlock ≠ none := Classical.em _
def u8V (u : UInt8) : Value := .int .u8 (u.toNat : Int)
/-- What stands where the document takes bytes, one by one. -/
structure UI (w : World) (q : Nat) (bs : List UInt8) (a bg c : Nat) (vp : Value) (wr : World) : Prop where
  ref : RefR wr q bs (a + c) bg
  step : w.grownBy wr (some q)
  own : wr.ownsRow w.heap.size 5 1 vp ((bs.drop a).take c).length (((bs.drop a).take c).map u8V)
  res : Blk wr w.heap.size 48 #[.int .i64 0, .int .i64 0]
section
variable {w wr w1 : World} {q a bg c : Nat} {bs : List UInt8} {vp : Value}
theorem UI.start (h : RefR w q bs a bg) {w1 : World} (hg : w.grownBy w1 none) (hb : Blk w1 w.heap.size 48 #[.int .i64 0, .int .i64 0]) : UI w q bs a bg 0 (.slice none 0 0) w1 :=
  ⟨h.kept hg (fun e => by cases e), only_weak hg _, by rw [List.take_zero]; exact World.ownsRow_nil _ _ _ _, hb⟩
theorem UI.none_ (h : UI w q bs a bg c vp wr) (hg : wr.grownBy w1 none) : UI w q bs a bg c vp w1 :=
  ⟨h.ref.kept hg (fun e => by cases e), only_trans h.step (only_weak hg _), h.own.kept hg (by cases hv : vp.ownBlock <;> simp), h.res.kept hg⟩
/-- Behind a byte that was taken: all but the list of what was taken. -/
theorem UI.byte (h : UI w q bs a bg c vp wr) (hql : q < w.heap.size) (hg : wr.grownBy w1 (some q)) (hr : RefR w1 q bs (a + c + 1) bg) :
    RefR w1 q bs (a + (c + 1)) bg ∧ w.grownBy w1 (some q) ∧ w1.ownsRow w.heap.size 5 1 vp ((bs.drop a).take c).length (((bs.drop a).take c).map u8V) ∧ Blk w1 w.heap.size 48 #[.int .i64 0, .int .i64 0] := by
  obtain ⟨cs, hb⟩ := h.ref.blk
  exact ⟨hr, only_trans h.step hg, h.own.kept hg (.inr (own_ne h.own hb (by decide))), h.res.grown hg (fun e => by injection e with e; omega)⟩
theorem UI.next {u : UInt8} {W : World} (hr : RefR W q bs (a + (c + 1)) bg) (hs : w.grownBy W (some q)) (ho0 : W.ownsRow w.heap.size 5 1 vp ((bs.drop a).take c).length (((bs.drop a).take c).map u8V)) (hb : Blk W w.heap.size 48 #[.int .i64 0, .int .i64 0])
    (hql : q < w.heap.size) (hsn : (bs.drop a).take (c + 1) = (bs.drop a).take c ++ [u]) {w3 : World} {vp' : Value} (hg : W.grownBy w3 vp.ownBlock)
    (ho : w3.ownsRow w.heap.size 5 1 vp' (((bs.drop a).take c).length + 1) ((((bs.drop a).take c).map u8V) ++ [u8V u])) : UI w q bs a bg (c + 1) vp' w3 := by
  have hlow : ∀ k, vp.ownBlock = some k → w.heap.size ≤ k := fun k hk => (ho0.lt k hk).1
  refine ⟨hr.kept hg (fun e => by have := hlow q e.symm; omega), ⟨hg.os.trans hs.os, hg.tape.trans hs.tape, hg.output.trans hs.output, Nat.le_trans hs.size hg.size, fun i hi hne => ?_⟩, ?_, ?_⟩
  · exact (hg.block i (Nat.lt_of_lt_of_le hi hs.size) (fun e => by have := hlow i e.symm; omega)).trans (hs.block i hi hne)
  · rw [hsn, List.length_append, List.map_append]; exact ho
  · exact hb.grown hg (fun e => own_ne ho0 hb (by decide) e.symm)
/-- The fault's two cells are stored into the result's block. -/
theorem UI.ends (h : UI w q bs a bg c vp wr) (hql : q < w.heap.size) (cd x : Int) :
    (setF wr w.heap.size cd x).cell? ⟨w.heap.size, 0, none⟩ = some (.int .i64 cd) ∧ (setF wr w.heap.size cd x).cell? ⟨w.heap.size, 1, none⟩ = some (.int .i64 x) ∧ w.grownBy (setF wr w.heap.size cd x) (some q) ∧ RefR (setF wr w.heap.size cd x) q bs (a + c) bg := by
  have hF := setF_blk h.res rfl cd x
  have hs : wr.grownBy (setF wr w.heap.size cd x) (some w.heap.size) := only_setCell (only_setCell (only_refl wr (some w.heap.size)) (p := ⟨w.heap.size, 0, none⟩) rfl (.int .i64 cd)) (p := ⟨w.heap.size, 1, none⟩) rfl (.int .i64 x)
  exact ⟨hF.cell 0, hF.cell 1, setF_only h.step (Nat.le_refl _) cd x, h.ref.kept hs (fun e => by injection e with e; omega)⟩
end
theorem u8_zero_info : (Tryd.prog.info? 5).map (fun i => (i.zero, i.size, i.bytes)) = some (some (.int .u8 0), 1, 1) := by kernel_rfl
/-- What comes of the tests of the bytes that were taken. -/
theorem bad_cases {x n : Int} {r : Bool} (hr : r = true ↔ (128 ≤ x ∨ (n = 10 ∧ 1 < x) ∨ (1 < n ∧ x = 0))) :
    (r = true ∧ 128 ≤ x) ∨ (r = true ∧ x < 128 ∧ n = 10 ∧ 1 < x) ∨ (r = true ∧ x < 128 ∧ n = 10 ∧ x ≤ 1 ∧ x = 0) ∨ (r = true ∧ x < 128 ∧ n ≠ 10 ∧ 1 < n ∧ x = 0) ∨
    (r = false ∧ x < 128 ∧ n = 10 ∧ x ≤ 1 ∧ x ≠ 0) ∨ (r = false ∧ x < 128 ∧ n ≠ 10 ∧ 1 < n ∧ x ≠ 0) ∨ (r = false ∧ x < 128 ∧ n ≠ 10 ∧ n ≤ 1) := by
  cases r with
  | true =>
    have := hr.1 rfl
    simp
    omega
  | false =>
    have : ¬ (128 ≤ x ∨ (n = 10 ∧ 1 < x) ∨ (1 < n ∧ x = 0)) := fun h => by have := hr.2 h; cases this
    simp
    omega

/-- What the document's U answers of the bytes that were taken. -/
def RefU (r : Bool) (n : Nat) (p : Int) (e : Ending) : Prop := (r = true ∧ e = .returned (.tuple #[.int .u64 0, .agg #[.int .i64 5, .int .i64 p]])) ∨ (r = false ∧ e = .returned (.tuple #[.int .u64 (n : Int), .agg #[.int .i64 0, .int .i64 0]]))

set_option maxRecDepth 100000 in
set_option maxHeartbeats 8000000 in
theorem ru_taken {w : World} {q : Nat} {bs : List UInt8} {a bg : Nat} (h : RefR w q bs a bg) (k : Nat) (hk : Taken (bs.drop a) k) (r : Bool) (hr : r = true ↔ Bad ((bs.drop a).take k)) :
    Calls Tryd.prog 80 #[.pointer (some ⟨q, 0, none⟩)] w fun e w' => RefU r (num ((bs.drop a).take k)) ((bg : Int) + (a : Int)) e ∧ w.grownBy w' (some q) ∧ RefR w' q bs (a + k) bg := by
  have hql := h.lt
  have h0 : w.grownBy (w.alloc (.cells #[.int .i64 0, .int .i64 0] 48)) none := only_alloc (only_refl _ _) _
  have hb0 := Blk.new w 48 #[.int .i64 0, .int .i64 0]
  have HP := rplace_any (h.kept h0 (fun e => by cases e))
  obtain ⟨i0, hi, hz0, hz1, hz2⟩ := info_parts u8_zero_info
  have HK := Lib.hid hk
  have HR := Lib.hid hr
  have hk10 := hk.le
  have hk1 := hk.pos
  have hkl := hk.len
  have hbs : Hid (∀ c, c < k → ∃ u, (bs.drop a)[c]? = some u ∧ bs[a + c]? = some u ∧ (bs.drop a).take (c + 1) = (bs.drop a).take c ++ [u]) := fun c hlt => by
    have h1 : c < (bs.drop a).length := by omega
    refine ⟨(bs.drop a)[c], List.getElem?_eq_getElem h1, ?_, List.take_succ_eq_append_getElem h1⟩
    rw [← List.getElem?_drop]; exact List.getElem?_eq_getElem h1
  have hcl : Hid (∀ c, c ≤ k → ((bs.drop a).take c).length = c) := fun c hc => by rw [List.length_take]; omega
  clear hk hr hkl
  generalize hpl : (bg : Int) + (a : Int) = pl at *
  go_enter Tryd.func80, Tryd.ntmps80
  go_wp2_with fail
  refine HP.mono ?_
  clear HP
  rintro e w1 ⟨rfl, hg1⟩
  have S0 := UI.start h (only_trans h0 hg1) (hb0.kept hg1)
  clear h h0 hb0 hg1
  go_upto_block 0 with fail
  go_cut [5] (fun vp wx => ∃ gp cp, vp = .slice (some ⟨gp, 0, none⟩) k cp ∧ UI w q bs a bg k vp wx)
  case first =>
    go_wp2_with fail
    go_loopw [5] (fun vp wr => ∃ c, c ≤ k ∧ (c = k → k = 10) ∧ UI w q bs a bg c vp wr) (fun vp _ => 10 - (match vp with | .slice _ n _ => n | _ => 0))
    case atStart => exact ⟨0, by omega, by omega, S0⟩
    case round =>
      obtain ⟨c, hck, hc10, S⟩ := hrel
      have hlen := hcl.out c hck
      obtain ⟨A2, c2, hv⟩ := own_shape S.own
      rw [hlen] at hv
      subst hv
      clear S0
      by_cases hcc : c = 10
      · have hk2 : k = 10 := by omega
        obtain ⟨gp, cp, hv, _⟩ := S.own.form (by omega)
        rw [hlen] at hv
        injection hv with hv1 hv2 hv3
        subst hv1
        subst hv3
        have hcc' : (c : Int) = 10 := by omega
        have hkc : c = k := by omega
        clear hv2 hk2 hck hc10
        go_wp2_with fail
        go_meet
        exact ⟨gp, c2, by rw [hkc], by rw [← hkc]; exact S⟩
      · have hcl10 : c < 10 := by omega
        have hlt : c < k := by omega
        obtain ⟨u, hu, hu2, hsn⟩ := hbs.out c hlt
        have hcl' : (c : Int) < 10 := by omega
        have HSN := Lib.hid hsn
        have hlow : (c + 1 < k ∧ 128 ≤ (u.toNat : Int)) ∨ (c + 1 = k ∧ (u.toNat : Int) < 128) ∨ (c + 1 = k ∧ k = 10 ∧ 128 ≤ (u.toNat : Int)) := by
          by_cases h1 : c + 1 < k
          · have := HK.out.high c u h1 hu
            omega
          · have h2 : c + 1 = k := by omega
            have := HK.out.last u (by rw [← h2, Nat.add_sub_cancel]; exact hu)
            omega
        have H1 := rbyte_ok S.ref u hu2
        have HC := Lib.hid hc10
        clear hsn hu hu2 hc10 hck
        go_wp2_with fail
        refine H1.mono ?_
        clear H1
        rintro e w2 ⟨rfl, hg2, hr2⟩
        obtain ⟨m1, m2, m3, m4⟩ := S.byte hql hg2 hr2
        have hgA : w2.grownBy ((w2.alloc (.cells #[.int .i64 0, .int .i64 0] 48)).alloc (.cells #[u8V u] 5)) none := only_alloc (only_alloc (only_refl _ _) _) _
        have N1 := m1.kept hgA (fun e => by cases e)
        have N2 := only_trans m2 (only_weak hgA (some q))
        have N3 := m3.kept hgA own_none
        have N4 := m4.kept hgA
        have hB : w.heap.size ≤ ((w2.alloc (.cells #[.int .i64 0, .int .i64 0] 48)).alloc (.cells #[u8V u] 5)).heap.size := N2.size
        have hn1 : ∀ j x, [u8V u][j]? = some x → ((w2.alloc (.cells #[.int .i64 0, .int .i64 0] 48)).alloc (.cells #[u8V u] 5)).cell? ((⟨w2.heap.size + 1, 0, none⟩ : Addr).add j) = some x := by
          have : ∀ j x, [u8V u][j]? = some x → ((w2.alloc (.cells #[.int .i64 0, .int .i64 0] 48)).alloc (.cells #[u8V u] 5)).cell? ((⟨(w2.alloc (.cells #[.int .i64 0, .int .i64 0] 48)).heap.size, 0, none⟩ : Addr).add j) = some x := cell_one_new _ _ _
          rwa [show (w2.alloc (.cells #[.int .i64 0, .int .i64 0] 48)).heap.size = w2.heap.size + 1 by simp] at this
        have H3 : Hid (((bs.drop a).take c).length + 1 ≤ maxLen) := by rw [hlen]; unfold maxLen; show _ ≤ _; omega
        have H4 : Hid ((((bs.drop a).take c).length + 1) * 1 ≤ 140737488355328) := by rw [hlen]; show _ ≤ _; omega
        clear hgA S hg2 hr2 m1 m2 m3 m4
        rcases hlow with ⟨d1, d2⟩ | ⟨d1, d2⟩ | ⟨d1, d2, d3⟩ <;> have D1 := Lib.hid d1 <;> clear d1
        · go_wp2_with (at_builtin; go_loud (refine wpList_append_own _ rfl _ _ 63 rfl w.heap.size 5 i0 (.int .u8 0) 1 1 Tryd.underlying63 hi hz0 hz1 hz2 rfl (by decide) _ _ _ rfl N3 ⟨w2.heap.size + 1, 0, none⟩ 1 1 [u8V u] rfl rfl hn1 (by simp [Value.oneCell', u8V]) H3.out H4.out hB ?_); intro v' w3 ho hg hx; clear hx; have S2 := UI.next N1 N2 N3 N4 hql HSN.out hg ho; obtain ⟨A3, c3, hv⟩ := own_shape S2.own; rw [hcl.out (c + 1) (by omega)] at hv; subst hv)
          go_roundw
          case rel => exact ⟨c + 1, by have := D1.out; omega, by have := D1.out; omega, S2⟩
          case measure => simp; omega
        · go_wp2_with (at_builtin; go_loud (refine wpList_append_own _ rfl _ _ 63 rfl w.heap.size 5 i0 (.int .u8 0) 1 1 Tryd.underlying63 hi hz0 hz1 hz2 rfl (by decide) _ _ _ rfl N3 ⟨w2.heap.size + 1, 0, none⟩ 1 1 [u8V u] rfl rfl hn1 (by simp [Value.oneCell', u8V]) H3.out H4.out hB ?_); intro v' w3 ho hg hx; clear hx; have S2 := UI.next N1 N2 N3 N4 hql HSN.out hg ho; obtain ⟨gp, cp, hv, _⟩ := S2.own.form (by rw [hcl.out (c + 1) (by omega)]; omega); rw [hcl.out (c + 1) (by omega)] at hv; subst hv)
          go_meet
          exact ⟨gp, cp, by rw [D1.out], by rw [← D1.out]; exact S2⟩
        · have D2 := Lib.hid d2
          clear d2
          go_wp2_with (at_builtin; go_loud (refine wpList_append_own _ rfl _ _ 63 rfl w.heap.size 5 i0 (.int .u8 0) 1 1 Tryd.underlying63 hi hz0 hz1 hz2 rfl (by decide) _ _ _ rfl N3 ⟨w2.heap.size + 1, 0, none⟩ 1 1 [u8V u] rfl rfl hn1 (by simp [Value.oneCell', u8V]) H3.out H4.out hB ?_); intro v' w3 ho hg hx; clear hx; have S2 := UI.next N1 N2 N3 N4 hql HSN.out hg ho; obtain ⟨A3, c3, hv⟩ := own_shape S2.own; rw [hcl.out (c + 1) (by omega)] at hv; subst hv)
          go_roundw
          case rel => exact ⟨c + 1, by have := D1.out; omega, fun _ => D2.out, S2⟩
          case measure => simp; omega
  case rest =>
    obtain ⟨gp, cp, rfl, S⟩ := hcut
    obtain ⟨m, rfl⟩ : ∃ m, k = m + 1 := ⟨k - 1, by omega⟩
    have hml := hcl.out (m + 1) (Nat.le_refl _)
    have hlm : m < ((bs.drop a).take (m + 1)).length := by omega
    have cm := S.own.cells (g := gp) rfl m (u8V ((bs.drop a).take (m + 1))[m]) (by rw [List.getElem?_map, List.getElem?_eq_getElem hlm]; rfl)
    rw [Go.WideShapes.add_plain, Nat.zero_add] at cm
    unfold u8V at cm
    have hbi := bad_iff hml
    have ht : tb ((bs.drop a).take (m + 1)) m = (((bs.drop a).take (m + 1))[m].toNat : Int) := by unfold tb; rw [List.getElem?_eq_getElem hlm]; rfl
    rw [ht] at hbi
    have hb2 := HR.out.trans hbi
    have hcells := Lib.hid S.own
    have hnum := sev_of_taken HK.out
    clear ht hbi S0
    generalize ((bs.drop a).take (m + 1))[m].toNat = xn at *
    generalize (xn : Int) = x at *
    have hm10 : (m : Int) < 10 := by omega
    go_upto_region 10 with fail
    go_cut [56] (fun v wx => v = .bool r ∧ wc = wx)
    case first =>
      rcases bad_cases hb2 with ⟨rfl, e1⟩ | ⟨rfl, e1, e2, e3⟩ | ⟨rfl, e1, e2, e3, e4⟩ | ⟨rfl, e1, e2, e3, e4⟩ | ⟨rfl, e1, e2, e3, e4⟩ | ⟨rfl, e1, e2, e3, e4⟩ | ⟨rfl, e1, e2, e3⟩
      · go_wp2_with fail
        go_meet
        exact ⟨rfl, rfl⟩
      · have e5 : ((m : Int) + 1 == 10) = true := by simp; omega
        go_wp2_with fail
        go_meet
        exact ⟨rfl, rfl⟩
      · have e5 : ((m : Int) + 1 == 10) = true := by simp; omega
        have e6 : (x == 0) = true := by simp; omega
        have e7 : (1 : Int) < (m : Int) + 1 := by omega
        clear e2 e4 hb2
        go_wp2_with fail
        go_meet
        exact ⟨rfl, rfl⟩
      · have e5 : ((m : Int) + 1 == 10) = false := by simp; omega
        have e6 : (x == 0) = true := by simp; omega
        clear e2 e4 hb2
        go_wp2_with fail
        go_meet
        exact ⟨rfl, rfl⟩
      · have e5 : ((m : Int) + 1 == 10) = true := by simp; omega
        have e6 : (x == 0) = false := by simp; omega
        have e7 : (1 : Int) < (m : Int) + 1 := by omega
        clear e2 e4 hb2
        go_wp2_with fail
        go_meet
        exact ⟨by simp; omega, rfl⟩
      · have e5 : ((m : Int) + 1 == 10) = false := by simp; omega
        have e6 : (x == 0) = false := by simp; omega
        go_wp2_with fail
        go_meet
        exact ⟨rfl, rfl⟩
      · have e5 : ((m : Int) + 1 == 10) = false := by simp; omega
        go_wp2_with fail
        go_meet
        exact ⟨rfl, rfl⟩
    case rest =>
      obtain ⟨rfl, rfl⟩ := hcut
      cases r with
      | true =>
        clear hcells hnum cm hb2
        have g0 : wc.cell? ⟨w.heap.size, 0, none⟩ = some (.int .i64 0) := S.res.cell 0
        have g1 : wc.cell? ⟨w.heap.size, 1, none⟩ = some (.int .i64 0) := S.res.cell 1
        have f0 := S.res.frozen 0
        have f1 := S.res.frozen 1
        go_wp2_with fail
        obtain ⟨e0, e1, e2, e3⟩ := S.ends hql 5 pl
        unfold setF at e0 e1 e2 e3
        exact bodyPost_ret (v := .tuple #[.int .u64 0, .agg #[.int .i64 5, .int .i64 pl]]) (by simp [results, Tryd.results80, go_sem, e0, e1]) rfl ⟨.inl ⟨rfl, rfl⟩, e2, e3⟩
      | false =>
        have hn := (hnum (fun hbad => by cases HR.out.2 hbad)).2
        have hmr := Lib.hid hml
        have hle := Lib.hid (num_drop_le ((bs.drop a).take (m + 1)))
        have cj : Hid (∀ j, j < m + 1 → ∃ y : Nat, y < 256 ∧ wc.cell? ⟨gp, j, none⟩ = some (.int .u8 (y : Int)) ∧ num (((bs.drop a).take (m + 1)).drop j) = num (((bs.drop a).take (m + 1)).drop (j + 1)) * 128 + y % 128) := by
          intro j hj
          have hj2 : j < ((bs.drop a).take (m + 1)).length := by omega
          refine ⟨((bs.drop a).take (m + 1))[j].toNat, ((bs.drop a).take (m + 1))[j].toNat_lt, ?_, num_drop _ j hj2⟩
          have := hcells.out.cells (g := gp) rfl j (u8V ((bs.drop a).take (m + 1))[j]) (by rw [List.getElem?_map, List.getElem?_eq_getElem hj2]; rfl)
          rw [Go.WideShapes.add_plain, Nat.zero_add] at this
          exact this
        have hn' := Lib.hid hn
        have S' := Lib.hid S
        clear hcells hnum cm hb2 hn hlm S hml
        generalize hll : (bs.drop a).take (m + 1) = l at *
        have HLL := Lib.hid hll
        clear hll
        go_wp2_with fail
        go_loopw [9, 10] (fun vn vi wr => ∃ j : Nat, j ≤ m + 1 ∧ vi = .int .i64 ((j : Int) - 1) ∧ vn = .int .u64 (num (l.drop j) : Int) ∧ wc = wr) (fun _ vi _ => (intOf vi + 1).toNat)
        case atStart => exact ⟨m + 1, by omega, by go_num, by rw [List.drop_eq_nil_of_le (by rw [hmr.out]; omega), num_nil]; rfl, rfl⟩
        case round =>
          obtain ⟨j, hj, rfl, rfl, rfl⟩ := hrel
          cases j with
          | zero =>
            rw [List.drop_zero]
            have g0 : wc.cell? ⟨w.heap.size, 0, none⟩ = some (.int .i64 0) := S'.out.res.cell 0
            have g1 : wc.cell? ⟨w.heap.size, 1, none⟩ = some (.int .i64 0) := S'.out.res.cell 1
            have f0 := S'.out.res.frozen 0
            have f1 := S'.out.res.frozen 1
            go_wp2_with fail
            obtain ⟨e0, e1, e2, e3⟩ := S'.out.ends hql 0 0
            unfold setF at e0 e1 e2 e3
            exact bodyPost_ret (v := .tuple #[.int .u64 (num l : Int), .agg #[.int .i64 0, .int .i64 0]]) (by simp [results, Tryd.results80, go_sem, e0, e1]) rfl ⟨.inr ⟨rfl, by rw [HLL.out]⟩, e2, e3⟩
          | succ j =>
            obtain ⟨y, hy, hc, hnum⟩ := cj.out j (by omega)
            have h1 := hle.out (j + 1)
            have h2 := hle.out j
            have h3 := hn'.out
            have e1 : ((j + 1 : Nat) : Int) - 1 = (j : Int) := by omega
            have hj10 : (j : Int) < (m : Int) + 1 := by omega
            have HN := Lib.hid hnum
            have HJ := Lib.hid hj
            have hb : (num (l.drop (j + 1)) : Int) * 128 + (y : Int) % 128 < 18446744073709551616 := by omega
            have hb0 : (0 : Int) ≤ (num (l.drop (j + 1)) : Int) := by omega
            have hx0 : (0 : Int) ≤ (y : Int) := by omega
            have hx1 : (y : Int) < 256 := by omega
            have HE : Hid ((num (l.drop j) : Int) = (num (l.drop (j + 1)) : Int) * 128 + (y : Int) % 128) := by show _ = _; rw [hnum]; omega
            clear hnum h1 h2 h3 hj
            rw [e1]
            clear e1
            generalize (num (l.drop (j + 1)) : Int) = yy at *
            generalize (y : Int) = z at *
            go_wp2_with fail
            go_roundw
            case rel => exact ⟨j, by have := HJ.out; omega, rfl, by rw [HE.out], trivial⟩
            case measure => simp [intOf]
end Go.Proofs.YtmbdaenjeeklfaaDoor

/- The document's answer for numbers (colloquyref02): U where bytes end, S, Small: what each answers, and what it leaves. -/
namespace Go.Proofs.YtmbdaenjeeklfaaDoor
open Go.RowKit

set_option maxRecDepth 100000 in
set_option maxHeartbeats 8000000 in
theorem ru_ends {w : World} {q : Nat} {bs : List UInt8} {a bg : Nat} (h : RefR w q bs a bg) (hs : Short (bs.drop a)) (hal : a ≤ bs.length) :
    Calls Tryd.prog 80 #[.pointer (some ⟨q, 0, none⟩)] w fun e w' => e = .returned (.tuple #[.int .u64 0, .agg #[.int .i64 3, .int .i64 ((bg : Int) + (bs.length : Int))]]) ∧ w.grownBy w' (some q) ∧ RefR w' q bs bs.length bg := by
  have hql := h.lt
  have h0 : w.grownBy (w.alloc (.cells #[.int .i64 0, .int .i64 0] 48)) none := only_alloc (only_refl _ _) _
  have hb0 := Blk.new w 48 #[.int .i64 0, .int .i64 0]
  have HP := rplace_any (h.kept h0 (fun e => by cases e))
  obtain ⟨i0, hi, hz0, hz1, hz2⟩ := info_parts u8_zero_info
  have hdl : (bs.drop a).length = bs.length - a := by simp
  have hd10 : (bs.drop a).length < 10 := hs.1
  have hbs : Hid (∀ c, c < (bs.drop a).length → ∃ u, 128 ≤ u.toNat ∧ bs[a + c]? = some u ∧ (bs.drop a).take (c + 1) = (bs.drop a).take c ++ [u]) := fun c h1 => by
    have h2 : (bs.drop a)[c]? = some (bs.drop a)[c] := List.getElem?_eq_getElem h1
    refine ⟨(bs.drop a)[c], hs.2 c _ h2, ?_, List.take_succ_eq_append_getElem h1⟩
    rw [← List.getElem?_drop]; exact h2
  have hcl : Hid (∀ c, c ≤ (bs.drop a).length → ((bs.drop a).take c).length = c) := fun c hc => by rw [List.length_take]; omega
  clear hs
  go_enter Tryd.func80, Tryd.ntmps80
  go_wp2_with fail
  refine HP.mono ?_
  clear HP
  rintro e w1 ⟨rfl, hg1⟩
  have S0 := UI.start h (only_trans h0 hg1) (hb0.kept hg1)
  clear h h0 hb0 hg1
  go_wp2_with fail
  go_loopw [5] (fun vp wr => ∃ c, c ≤ (bs.drop a).length ∧ UI w q bs a bg c vp wr) (fun vp _ => 10 - (match vp with | .slice _ n _ => n | _ => 0))
  case atStart => exact ⟨0, by omega, S0⟩
  case round =>
    obtain ⟨c, hck, S⟩ := hrel
    have hlen := hcl.out c hck
    obtain ⟨A2, c2, hv⟩ := own_shape S.own
    rw [hlen] at hv
    subst hv
    clear S0
    have hcl10 : c < 10 := by omega
    have hcl' : (c : Int) < 10 := by omega
    by_cases hlt : c < (bs.drop a).length
    · obtain ⟨u, hu, hu2, hsn⟩ := hbs.out c hlt
      have HSN := Lib.hid hsn
      have hu' : 128 ≤ (u.toNat : Int) := by omega
      have H1 := rbyte_ok S.ref u hu2
      clear hsn hu hu2
      go_wp2_with fail
      refine H1.mono ?_
      clear H1
      rintro e w2 ⟨rfl, hg2, hr2⟩
      obtain ⟨m1, m2, m3, m4⟩ := S.byte hql hg2 hr2
      have hgA : w2.grownBy ((w2.alloc (.cells #[.int .i64 0, .int .i64 0] 48)).alloc (.cells #[u8V u] 5)) none := only_alloc (only_alloc (only_refl _ _) _) _
      have N1 := m1.kept hgA (fun e => by cases e)
      have N2 := only_trans m2 (only_weak hgA (some q))
      have N3 := m3.kept hgA own_none
      have N4 := m4.kept hgA
      have hB : w.heap.size ≤ ((w2.alloc (.cells #[.int .i64 0, .int .i64 0] 48)).alloc (.cells #[u8V u] 5)).heap.size := N2.size
      have hn1 : ∀ j x, [u8V u][j]? = some x → ((w2.alloc (.cells #[.int .i64 0, .int .i64 0] 48)).alloc (.cells #[u8V u] 5)).cell? ((⟨w2.heap.size + 1, 0, none⟩ : Addr).add j) = some x := by
        have : ∀ j x, [u8V u][j]? = some x → ((w2.alloc (.cells #[.int .i64 0, .int .i64 0] 48)).alloc (.cells #[u8V u] 5)).cell? ((⟨(w2.alloc (.cells #[.int .i64 0, .int .i64 0] 48)).heap.size, 0, none⟩ : Addr).add j) = some x := cell_one_new _ _ _
        rwa [show (w2.alloc (.cells #[.int .i64 0, .int .i64 0] 48)).heap.size = w2.heap.size + 1 by simp] at this
      have H3 : Hid (((bs.drop a).take c).length + 1 ≤ maxLen) := by rw [hlen]; unfold maxLen; show _ ≤ _; omega
      have H4 : Hid ((((bs.drop a).take c).length + 1) * 1 ≤ 140737488355328) := by rw [hlen]; show _ ≤ _; omega
      clear hgA S hg2 hr2 m1 m2 m3 m4
      go_wp2_with (at_builtin; go_loud (refine wpList_append_own _ rfl _ _ 63 rfl w.heap.size 5 i0 (.int .u8 0) 1 1 Tryd.underlying63 hi hz0 hz1 hz2 rfl (by decide) _ _ _ rfl N3 ⟨w2.heap.size + 1, 0, none⟩ 1 1 [u8V u] rfl rfl hn1 (by simp [Value.oneCell', u8V]) H3.out H4.out hB ?_); intro v' w3 ho hg hx; clear hx; have S2 := UI.next N1 N2 N3 N4 hql HSN.out hg ho; obtain ⟨A3, c3, hv⟩ := own_shape S2.own; rw [hcl.out (c + 1) (by omega)] at hv; subst hv)
      go_roundw
      case rel => exact ⟨c + 1, by omega, S2⟩
      case measure => simp; omega
    · have hend : a + c = bs.length := by omega
      have hp : (bg : Int) + ((a + c : Nat) : Int) = (bg : Int) + (bs.length : Int) := by rw [hend]
      have H1 := rbyte_short S.ref hend
      rw [hp] at H1
      have HE := Lib.hid hend
      clear hend hp
      generalize hpl : (bg : Int) + (bs.length : Int) = pl at *
      have HPL := Lib.hid hpl
      clear hpl
      go_wp2_with fail
      refine H1.mono ?_
      clear H1
      rintro e w2 ⟨rfl, hg2⟩
      have S2 := S.none_ hg2
      clear S hg2
      have g0 : w2.cell? ⟨w.heap.size, 0, none⟩ = some (.int .i64 0) := S2.res.cell 0
      have g1 : w2.cell? ⟨w.heap.size, 1, none⟩ = some (.int .i64 0) := S2.res.cell 1
      have f0 := S2.res.frozen 0
      have f1 := S2.res.frozen 1
      have hz := S2.res.lt
      go_wp2_with fail
      go_region
      all_goals go_wp2
      obtain ⟨e0, e1, e2, e3⟩ := res_end S2.step S2.res rfl 3 pl (.cells #[.int .i64 3, .int .i64 pl] 48)
      have e4 := e3 _ _ _ _ S2.ref hql
      rw [HE.out] at e4
      unfold setF at e0 e1 e2 e4
      exact bodyPost_ret (v := .tuple #[.int .u64 0, .agg #[.int .i64 3, .int .i64 pl]]) (by simp [results, Tryd.results80, go_sem, e0, e1]) rfl ⟨by rw [HPL.out], e2, e4⟩
end Go.Proofs.YtmbdaenjeeklfaaDoor

/- The document's answer for numbers (colloquyref02): S and Small: what each answers, and what it leaves. -/
namespace Go.Proofs.YtmbdaenjeeklfaaDoor
open Go.RowKit

set_option maxHeartbeats 1000000 in
theorem runfold_eq (n : Nat) (hn : n < 18446744073709551616) (w : World) :
    Calls Tryd.prog 81 #[.int .u64 (n : Int)] w fun e w' => e = .returned (.int .i64 (unfoldZ n)) ∧ w = w' := by
  have h0 : (0 : Int) ≤ (n : Int) := by omega
  have h1 : (n : Int) < 18446744073709551616 := by omega
  by_cases hp : n % 2 = 0
  · have e : unfoldZ n = (n : Int) / 2 := by unfold unfoldZ; rw [if_pos hp]; omega
    have t1 : ((n : Int) % 2 == 0) = true := by simp; omega
    rw [e]
    clear e hp
    generalize (n : Int) = m at *
    go_enter Tryd.func81, Tryd.ntmps81
    go_wp2
    go_ret
    exact ⟨rfl, rfl⟩
  · have e : unfoldZ n = -((n : Int) / 2) - 1 := by unfold unfoldZ; rw [if_neg hp]; omega
    have t1 : ((n : Int) % 2 == 0) = false := by simp; omega
    rw [e]
    clear e hp
    generalize (n : Int) = m at *
    go_enter Tryd.func81, Tryd.ntmps81
    go_wp2
    go_ret
    exact ⟨rfl, rfl⟩

/-- What a call of the document's answer comes to: a value beside a fault's number and place; the reader's place. -/
def RefSays (v : Value) (c x : Int) (q : Nat) (bs : List UInt8) (b bg : Nat) (w : World) (e : Ending) (w' : World) : Prop :=
  e = .returned (.tuple #[v, .agg #[.int .i64 c, .int .i64 x]]) ∧ w.grownBy w' (some q) ∧ RefR w' q bs b bg

theorem ref_mid {w w2 : World} {q : Nat} (hql : q < w.heap.size) (hg : (w.alloc (.cells #[.int .i64 0, .int .i64 0] 48)).grownBy w2 (some q)) :
    w.grownBy w2 (some q) ∧ Blk w2 w.heap.size 48 #[.int .i64 0, .int .i64 0] :=
  ⟨only_trans (only_weak (only_alloc (only_refl w none) _) _) hg, (Blk.new w _ _).grown hg (fun e => by injection e with e; omega)⟩

theorem res_end2 {w w1 : World} {row : Option Nat} {cs : Array Value} (hg1 : w.grownBy w1 row) (hb1 : Blk w1 w.heap.size 48 cs) (hc : cs.size = 2) (c x : Int) (o : Obj) :
    ((setF w1 w.heap.size c x).alloc o).cell? ⟨w.heap.size, 0, none⟩ = some (.int .i64 c) ∧ ((setF w1 w.heap.size c x).alloc o).cell? ⟨w.heap.size, 1, none⟩ = some (.int .i64 x) ∧
    w.grownBy ((setF w1 w.heap.size c x).alloc o) row ∧
    (∀ q bs a bg, RefR w1 q bs a bg → q < w.heap.size → RefR ((setF w1 w.heap.size c x).alloc o) q bs a bg) := by
  obtain ⟨e0, e1, e2, e3⟩ := res_end hg1 hb1 hc c x o
  exact ⟨e0, e1, ⟨e2.os, e2.tape, e2.output, e2.size, e2.block⟩, fun q bs a bg h hl => e3 q bs a bg h hl⟩

section
variable {w : World} {q a b bg : Nat} {bs : List UInt8}
set_option maxRecDepth 100000 in
set_option maxHeartbeats 1000000 in
theorem rs_fault (h : RefR w q bs a bg) (c x : Int) (hc : (c == 0) = false)
    (HU : ∀ W, RefR W q bs a bg → Calls Tryd.prog 80 #[.pointer (some ⟨q, 0, none⟩)] W (RefSays (.int .u64 0) c x q bs b bg W)) :
    Calls Tryd.prog 64 #[.pointer (some ⟨q, 0, none⟩)] w (RefSays (.int .i64 0) c x q bs b bg w) := by
  have hql := h.lt
  have h0 : w.grownBy (w.alloc (.cells #[.int .i64 0, .int .i64 0] 48)) none := only_alloc (only_refl _ _) _
  have H := HU _ (h.kept h0 (fun e => by cases e))
  clear HU
  go_enter Tryd.func64, Tryd.ntmps64
  go_wp2_with fail
  refine H.mono ?_
  rintro e w2 ⟨rfl, hg2, hr2⟩
  obtain ⟨hg, hb⟩ := ref_mid hql hg2
  have g0 : w2.cell? ⟨w.heap.size, 0, none⟩ = some (.int .i64 0) := hb.cell 0
  have g1 : w2.cell? ⟨w.heap.size, 1, none⟩ = some (.int .i64 0) := hb.cell 1
  have f0 := hb.frozen 0
  have f1 := hb.frozen 1
  have hz := hb.lt
  go_wp2_with fail
  go_region
  all_goals go_wp2
  obtain ⟨e0, e1, e2, e3⟩ := res_end hg hb rfl c x (.cells #[.int .i64 c, .int .i64 x] 48)
  have e4 := e3 _ _ _ _ hr2 hql
  unfold setF at e0 e1 e2 e4
  exact bodyPost_ret (v := .tuple #[.int .i64 0, .agg #[.int .i64 c, .int .i64 x]]) (by simp [results, Tryd.results64, go_sem, e0, e1]) rfl ⟨rfl, e2, e4⟩

set_option maxRecDepth 100000 in
set_option maxHeartbeats 1000000 in
theorem rs_ok (h : RefR w q bs a bg) (n : Nat) (hn : n < 18446744073709551616)
    (HU : ∀ W, RefR W q bs a bg → Calls Tryd.prog 80 #[.pointer (some ⟨q, 0, none⟩)] W (RefSays (.int .u64 (n : Int)) 0 0 q bs b bg W)) :
    Calls Tryd.prog 64 #[.pointer (some ⟨q, 0, none⟩)] w (RefSays (.int .i64 (unfoldZ n)) 0 0 q bs b bg w) := by
  have hql := h.lt
  have h0 : w.grownBy (w.alloc (.cells #[.int .i64 0, .int .i64 0] 48)) none := only_alloc (only_refl _ _) _
  have H := HU _ (h.kept h0 (fun e => by cases e))
  have HF := runfold_eq n hn
  clear HU hn
  go_enter Tryd.func64, Tryd.ntmps64
  go_wp2_with fail
  refine H.mono ?_
  rintro e w2 ⟨rfl, hg2, hr2⟩
  obtain ⟨hg, hb⟩ := ref_mid hql hg2
  have g0 : w2.cell? ⟨w.heap.size, 0, none⟩ = some (.int .i64 0) := hb.cell 0
  have g1 : w2.cell? ⟨w.heap.size, 1, none⟩ = some (.int .i64 0) := hb.cell 1
  have f0 := hb.frozen 0
  have f1 := hb.frozen 1
  have hz := hb.lt
  go_wp2_with fail
  go_region_with (go_at_call 81; refine (HF _).mono ?_; rintro e w' ⟨rfl, rfl⟩)
  all_goals go_wp2
  all_goals
    obtain ⟨e0, e1, e2, e3⟩ := res_end hg hb rfl 0 0 (.cells #[.int .i64 0, .int .i64 0] 48)
    have e4 := e3 _ _ _ _ hr2 hql
    unfold setF at e0 e1 e2 e4
    exact bodyPost_ret (v := .tuple #[.int .i64 (unfoldZ n), .agg #[.int .i64 0, .int .i64 0]]) (by simp [results, Tryd.results64, go_sem, e0, e1]) rfl ⟨rfl, e2, e4⟩

theorem small_mid {w w1 w2 : World} {q : Nat} (hql : q < w.heap.size) (hg1 : (w.alloc (.cells #[.int .i64 0, .int .i64 0] 48)).grownBy w1 none) (hg : w1.grownBy w2 (some q)) :
    w.grownBy w2 (some q) ∧ Blk w2 w.heap.size 48 #[.int .i64 0, .int .i64 0] :=
  ref_mid hql (only_trans (only_weak hg1 _) hg)

set_option maxRecDepth 100000 in
set_option maxHeartbeats 1000000 in
theorem rsmall_fault (h : RefR w q bs a bg) (most c x : Int) (hc : (c == 0) = false)
    (HU : ∀ W, RefR W q bs a bg → Calls Tryd.prog 80 #[.pointer (some ⟨q, 0, none⟩)] W (RefSays (.int .u64 0) c x q bs b bg W)) :
    Calls Tryd.prog 65 #[.pointer (some ⟨q, 0, none⟩), .int .i64 most] w (RefSays (.int .i64 0) c x q bs b bg w) := by
  have hql := h.lt
  have h0 : w.grownBy (w.alloc (.cells #[.int .i64 0, .int .i64 0] 48)) none := only_alloc (only_refl _ _) _
  have hR := h.kept h0 (fun e => by cases e)
  have HP := rplace_any hR
  go_enter Tryd.func65, Tryd.ntmps65
  go_wp2_with fail
  refine HP.mono ?_
  rintro e w1 ⟨rfl, hg1⟩
  go_wp2_with fail
  refine (HU _ (hR.kept hg1 (fun e => by cases e))).mono ?_
  rintro e w2 ⟨rfl, hg2, hr2⟩
  obtain ⟨hg, hb⟩ := small_mid hql hg1 hg2
  have g0 : w2.cell? ⟨w.heap.size, 0, none⟩ = some (.int .i64 0) := hb.cell 0
  have g1 : w2.cell? ⟨w.heap.size, 1, none⟩ = some (.int .i64 0) := hb.cell 1
  have f0 := hb.frozen 0
  have f1 := hb.frozen 1
  have hz := hb.lt
  go_wp2_with fail
  go_region
  all_goals go_wp2
  obtain ⟨e0, e1, e2, e3⟩ := res_end hg hb rfl c x (.cells #[.int .i64 c, .int .i64 x] 48)
  have e4 := e3 _ _ _ _ hr2 hql
  unfold setF at e0 e1 e2 e4
  exact bodyPost_ret (v := .tuple #[.int .i64 0, .agg #[.int .i64 c, .int .i64 x]]) (by simp [results, Tryd.results65, go_sem, e0, e1]) rfl ⟨rfl, e2, e4⟩

set_option maxRecDepth 100000 in
set_option maxHeartbeats 1000000 in
theorem rsmall_ok (h : RefR w q bs a bg) (most : Int) (n : Nat) (hw : Whole most) (hm : (n : Int) ≤ most)
    (HU : ∀ W, RefR W q bs a bg → Calls Tryd.prog 80 #[.pointer (some ⟨q, 0, none⟩)] W (RefSays (.int .u64 (n : Int)) 0 0 q bs b bg W)) :
    Calls Tryd.prog 65 #[.pointer (some ⟨q, 0, none⟩), .int .i64 most] w (RefSays (.int .i64 (n : Int)) 0 0 q bs b bg w) := by
  have hql := h.lt
  have h0 : w.grownBy (w.alloc (.cells #[.int .i64 0, .int .i64 0] 48)) none := only_alloc (only_refl _ _) _
  have hR := h.kept h0 (fun e => by cases e)
  have HP := rplace_any hR
  obtain ⟨hw1, hw2⟩ := hw
  have hn0 : (0 : Int) ≤ (n : Int) := by omega
  have hcv : IntKind.i64.wrap (n : Int) = (n : Int) := IntWalk.i64_in _ ⟨by omega, by omega⟩
  generalize (n : Int) = nn at *
  go_enter Tryd.func65, Tryd.ntmps65
  go_wp2_with fail
  refine HP.mono ?_
  rintro e w1 ⟨rfl, hg1⟩
  go_wp2_with fail
  refine (HU _ (hR.kept hg1 (fun e => by cases e))).mono ?_
  rintro e w2 ⟨rfl, hg2, hr2⟩
  obtain ⟨hg, hb⟩ := small_mid hql hg1 hg2
  have g0 : w2.cell? ⟨w.heap.size, 0, none⟩ = some (.int .i64 0) := hb.cell 0
  have g1 : w2.cell? ⟨w.heap.size, 1, none⟩ = some (.int .i64 0) := hb.cell 1
  have f0 := hb.frozen 0
  have f1 := hb.frozen 1
  have hz := hb.lt
  go_wp2_with fail
  go_region
  all_goals go_wp2
  obtain ⟨e0, e1, e2, e3⟩ := res_end hg hb rfl 0 0 (.cells #[.int .i64 0, .int .i64 0] 48)
  have e4 := e3 _ _ _ _ hr2 hql
  unfold setF at e0 e1 e2 e4
  exact bodyPost_ret (v := .tuple #[.int .i64 nn, .agg #[.int .i64 0, .int .i64 0]]) (by simp [results, Tryd.results65, go_sem, e0, e1]) rfl ⟨rfl, e2, e4⟩

set_option maxRecDepth 100000 in
set_option maxHeartbeats 1000000 in
theorem rsmall_long (h : RefR w q bs a bg) (most : Int) (n : Nat) (hn : n < 18446744073709551616) (hw : Whole most) (hm : most < (n : Int))
    (HU : ∀ W, RefR W q bs a bg → Calls Tryd.prog 80 #[.pointer (some ⟨q, 0, none⟩)] W (RefSays (.int .u64 (n : Int)) 0 0 q bs b bg W)) :
    Calls Tryd.prog 65 #[.pointer (some ⟨q, 0, none⟩), .int .i64 most] w (RefSays (.int .i64 0) 4 ((bg : Int) + (a : Int)) q bs b bg w) := by
  have hql := h.lt
  have h0 : w.grownBy (w.alloc (.cells #[.int .i64 0, .int .i64 0] 48)) none := only_alloc (only_refl _ _) _
  have hR := h.kept h0 (fun e => by cases e)
  have HP := rplace_any hR
  obtain ⟨hw1, hw2⟩ := hw
  have hn0 : (0 : Int) ≤ (n : Int) := by omega
  have hn1 : (n : Int) < 18446744073709551616 := by omega
  clear hn
  generalize (n : Int) = nn at *
  generalize (bg : Int) + (a : Int) = pl at *
  by_cases hm0 : most < 0
  · go_enter Tryd.func65, Tryd.ntmps65
    go_wp2_with fail
    refine HP.mono ?_
    rintro e w1 ⟨rfl, hg1⟩
    go_wp2_with fail
    refine (HU _ (hR.kept hg1 (fun e => by cases e))).mono ?_
    rintro e w2 ⟨rfl, hg2, hr2⟩
    obtain ⟨hg, hb⟩ := small_mid hql hg1 hg2
    have g0 : w2.cell? ⟨w.heap.size, 0, none⟩ = some (.int .i64 0) := hb.cell 0
    have g1 : w2.cell? ⟨w.heap.size, 1, none⟩ = some (.int .i64 0) := hb.cell 1
    have f0 := hb.frozen 0
    have f1 := hb.frozen 1
    have hz := hb.lt
    go_wp2_with fail
    obtain ⟨e0, e1, e2, e3⟩ := res_end2 hg hb rfl 4 pl (.cells #[.int .i64 0, .int .i64 0] 48)
    have e4 := e3 _ _ _ _ hr2 hql
    unfold setF at e0 e1 e2 e4
    exact bodyPost_ret (v := .tuple #[.int .i64 0, .agg #[.int .i64 4, .int .i64 pl]]) (by simp [results, Tryd.results65, go_sem, e0, e1]) rfl ⟨rfl, e2, e4⟩
  · have hm1 : 0 ≤ most := by omega
    go_enter Tryd.func65, Tryd.ntmps65
    go_wp2_with fail
    refine HP.mono ?_
    rintro e w1 ⟨rfl, hg1⟩
    go_wp2_with fail
    refine (HU _ (hR.kept hg1 (fun e => by cases e))).mono ?_
    rintro e w2 ⟨rfl, hg2, hr2⟩
    obtain ⟨hg, hb⟩ := small_mid hql hg1 hg2
    have g0 : w2.cell? ⟨w.heap.size, 0, none⟩ = some (.int .i64 0) := hb.cell 0
    have g1 : w2.cell? ⟨w.heap.size, 1, none⟩ = some (.int .i64 0) := hb.cell 1
    have f0 := hb.frozen 0
    have f1 := hb.frozen 1
    have hz := hb.lt
    go_wp2_with fail
    obtain ⟨e0, e1, e2, e3⟩ := res_end2 hg hb rfl 4 pl (.cells #[.int .i64 0, .int .i64 0] 48)
    have e4 := e3 _ _ _ _ hr2 hql
    unfold setF at e0 e1 e2 e4
    exact bodyPost_ret (v := .tuple #[.int .i64 0, .agg #[.int .i64 4, .int .i64 pl]]) (by simp [results, Tryd.results65, go_sem, e0, e1]) rfl ⟨rfl, e2, e4⟩
end
end Go.Proofs.YtmbdaenjeeklfaaDoor

/- Texts joined for the claim's sake: IRrQ, IRrR, IRrS. -/
import Derived.Test.YtmbdaenjeeklfaaDoorZIRrP
import Derived.Test.YtmbdaenjeeklfaaDoorZIRfC
import Derived.Test.YtmbdaenjeeklfaaDoorZInH
import Derived.LoopTactic
/- The document's answer for instructions (colloquyref09): what stands as Read goes. -/
namespace Go.Proofs.YtmbdaenjeeklfaaDoor
open Go.RowKit

theorem rdE_len {most : Int} {bs : List UInt8} : ∀ (n a : Nat) (l : List Int) (b : Nat), rdE most bs n a = .ok l b → l.length = n
  | 0, a, l, b, h => by
    injection h with h1 _
    rw [← h1]
    rfl
  | n + 1, a, l, b, h => by
    obtain ⟨v, c, _, h2⟩ := Rs.bind_is h
    obtain ⟨l', d, h3, h4⟩ := Rs.bind_is h2
    injection h4 with h5 _
    rw [← h5, List.length_cons, rdE_len n c l' d h3]
theorem opsR_len {c : Kl} {op : Int} {bs : List UInt8} {a b : Nat} {x : Ins} (h : opsR c op bs a = .ok x b) : x.l.length ≤ 8 := by
  cases c
  case no => injection h with h1 _; rw [← h1]; simp
  case plain => injection h with h1 _; rw [← h1]; simp
  case push =>
    obtain ⟨v, d, _, h2⟩ := Rs.bind_is (opsR_push ▸ h)
    injection h2 with h1 _; rw [← h1]; simp
  case one =>
    obtain ⟨v, d, _, h2⟩ := Rs.bind_is (opsR_one ▸ h)
    injection h2 with h1 _; rw [← h1]; simp
  case two =>
    obtain ⟨v, d, _, h2⟩ := Rs.bind_is (opsR_two ▸ h)
    obtain ⟨u, e, _, h3⟩ := Rs.bind_is h2
    injection h3 with h1 _; rw [← h1]; simp
  case select =>
    obtain ⟨v, d, _, h2⟩ := Rs.bind_is (opsR_select ▸ h)
    obtain ⟨u, e, _, h3⟩ := Rs.bind_is h2
    injection h3 with h1 _; rw [← h1]; simp
  case jump =>
    obtain ⟨l, d, h1, h2⟩ := Rs.bind_is (opsR_jump ▸ h)
    injection h2 with h3 _; rw [← h3]; show l.length ≤ 8; rw [rdE_len _ _ _ _ h1]; omega
  case branch =>
    obtain ⟨v, d, _, h2⟩ := Rs.bind_is (opsR_branch ▸ h)
    obtain ⟨l, e, h3, h4⟩ := Rs.bind_is h2
    obtain ⟨n, f, h5, h6⟩ := Rs.bind_is h3
    injection h4 with h7 _; rw [← h7]; show l.length ≤ 8; rw [rdE_len _ _ _ _ h6]
    have := (smR_is h5).2.1
    omega
  case new_ =>
    obtain ⟨v, d, _, h2⟩ := Rs.bind_is (opsR_new ▸ h)
    obtain ⟨u, e, _, h3⟩ := Rs.bind_is h2
    obtain ⟨l, f, h5, h6⟩ := Rs.bind_is h3
    injection h6 with h7 _; rw [← h7]; show l.length ≤ 8; rw [rdE_len _ _ _ _ h5]; omega
  case spawn =>
    obtain ⟨v, d, _, h2⟩ := Rs.bind_is (opsR_spawn ▸ h)
    obtain ⟨l, e, h3, h4⟩ := Rs.bind_is h2
    obtain ⟨n, f, h5, h6⟩ := Rs.bind_is h3
    injection h4 with h7 _; rw [← h7]; show l.length ≤ 8; rw [rdE_len _ _ _ _ h6]
    have := (smR_is h5).2.1
    omega
/-- What stands as the document reads: two boxes for the results. -/
structure RS (w : World) (q : Nat) (bs : List UInt8) (b : Nat) (W : World) : Prop where
  r2 : Blk W w.heap.size 24 #[.int .i64 0, .int .i64 0, .int .i64 0, .int .i64 0, .int .i64 0, .slice none 0 0]
  r3 : Blk W (w.heap.size + 1) 48 #[.int .i64 0, .int .i64 0]
  st : w.grownBy W (some q)
  rd : RefR W q bs b 0
section
variable {w W W' : World} {q b b' : Nat} {bs : List UInt8}
theorem RS.none_ (h : RS w q bs b W) (hg : W.grownBy W' none) : RS w q bs b W' := ⟨h.r2.kept hg, h.r3.kept hg, only_trans h.st (only_weak hg _), h.rd.kept hg (fun e => by cases e)⟩
theorem RS.call (h : RS w q bs b W) (hql : q < w.heap.size) (hg : W.grownBy W' (some q)) (hr : RefR W' q bs b' 0) : RS w q bs b' W' :=
  ⟨h.r2.grown hg (fun e => by injection e with e; omega), h.r3.grown hg (fun e => by injection e with e; omega), only_trans h.st hg, hr⟩
theorem RS.at_ {k : Nat} (h : RS w q bs b W) (hg : W.grownBy W' (some k)) (hk : w.heap.size + 1 < k) (hq : q < w.heap.size) : RS w q bs b W' :=
  ⟨h.r2.grown hg (fun e => by injection e with e; omega), h.r3.grown hg (fun e => by injection e with e; omega), only_new' h.st hg (by omega), h.rd.kept hg (fun e => by injection e with e; omega)⟩
/-- Behind the results' stores, undrawn. -/
abbrev setR (W : World) (n : Nat) (c0 c1 c2 c3 c4 c5 : Value) (c x : Int) : World :=
  (((((((W.setCell ⟨n, 0, none⟩ c0).setCell ⟨n, 1, none⟩ c1).setCell ⟨n, 2, none⟩ c2).setCell ⟨n, 3, none⟩ c3).setCell ⟨n, 4, none⟩ c4).setCell ⟨n, 5, none⟩ c5).setCell ⟨n + 1, 0, none⟩ (.int .i64 c)).setCell ⟨n + 1, 1, none⟩ (.int .i64 x)
theorem RS.end_ (h : RS w q bs b W) (hql : q < w.heap.size) (c0 c1 c2 c3 c4 c5 : Value) (c x : Int) :
    Blk (setR W w.heap.size c0 c1 c2 c3 c4 c5 c x) w.heap.size 24 #[c0, c1, c2, c3, c4, c5] ∧ Blk (setR W w.heap.size c0 c1 c2 c3 c4 c5 c x) (w.heap.size + 1) 48 #[.int .i64 c, .int .i64 x] ∧
    w.grownBy (setR W w.heap.size c0 c1 c2 c3 c4 c5 c x) (some q) ∧ RefR (setR W w.heap.size c0 c1 c2 c3 c4 c5 c x) q bs b 0 ∧
    (∀ v zs, IntsA (fun k => w.heap.size + 1 < k) W v zs → IntsA (fun k => w.heap.size < k) (setR W w.heap.size c0 c1 c2 c3 c4 c5 c x) v zs) := by
  have h4 := (((((h.r2.set_ 0 c0).set_ 1 c1).set_ 2 c2).set_ 3 c3).set_ 4 c4).set_ 5 c5
  have g4 : W.grownBy ((((((W.setCell ⟨w.heap.size, 0, none⟩ c0).setCell ⟨w.heap.size, 1, none⟩ c1).setCell ⟨w.heap.size, 2, none⟩ c2).setCell ⟨w.heap.size, 3, none⟩ c3).setCell ⟨w.heap.size, 4, none⟩ c4).setCell ⟨w.heap.size, 5, none⟩ c5) (some w.heap.size) :=
    only_setCell (p := ⟨w.heap.size, 5, none⟩) (only_setCell (p := ⟨w.heap.size, 4, none⟩) (only_setCell (p := ⟨w.heap.size, 3, none⟩) (only_setCell (p := ⟨w.heap.size, 2, none⟩) (only_setCell (p := ⟨w.heap.size, 1, none⟩) (only_setCell (p := ⟨w.heap.size, 0, none⟩) (only_refl _ _) rfl _) rfl _) rfl _) rfl _) rfl _) rfl _
  have h4' : Blk ((((((W.setCell ⟨w.heap.size, 0, none⟩ c0).setCell ⟨w.heap.size, 1, none⟩ c1).setCell ⟨w.heap.size, 2, none⟩ c2).setCell ⟨w.heap.size, 3, none⟩ c3).setCell ⟨w.heap.size, 4, none⟩ c4).setCell ⟨w.heap.size, 5, none⟩ c5) w.heap.size 24 #[c0, c1, c2, c3, c4, c5] := h4
  unfold setR
  generalize ((((((W.setCell ⟨w.heap.size, 0, none⟩ c0).setCell ⟨w.heap.size, 1, none⟩ c1).setCell ⟨w.heap.size, 2, none⟩ c2).setCell ⟨w.heap.size, 3, none⟩ c3).setCell ⟨w.heap.size, 4, none⟩ c4).setCell ⟨w.heap.size, 5, none⟩ c5) = Wa at g4 h4'
  have h5 := ((h.r3.grown g4 (fun e => by injection e with e; omega)).set_ 0 (.int .i64 c)).set_ 1 (.int .i64 x)
  have g5 : Wa.grownBy ((Wa.setCell ⟨w.heap.size + 1, 0, none⟩ (.int .i64 c)).setCell ⟨w.heap.size + 1, 1, none⟩ (.int .i64 x)) (some (w.heap.size + 1)) := only_setCell (p := ⟨w.heap.size + 1, 1, none⟩) (only_setCell (p := ⟨w.heap.size + 1, 0, none⟩) (only_refl _ _) rfl _) rfl _
  refine ⟨h4'.grown g5 (fun e => by injection e with e; omega), h5, only_new' (only_new' h.st g4 (Nat.le_refl _)) g5 (by omega), (h.rd.kept g4 (fun e => by injection e with e; omega)).kept g5 (fun e => by injection e with e; omega), fun v zs hI => ?_⟩
  have hI2 := hI.row g4 (fun b hb e => by injection e with e; have hb' : w.heap.size + 1 < b := hb; omega)
  have hI3 := hI2.row g5 (fun b hb e => by injection e with e; have hb' : w.heap.size + 1 < b := hb; omega)
  obtain ⟨A, cc, k1, k2⟩ := hI3
  refine ⟨A, cc, k1, fun hn => ?_⟩
  obtain ⟨b, off, k3, k4, k5⟩ := k2 hn
  have k4' : w.heap.size + 1 < b := k4
  exact ⟨b, off, k3, by show w.heap.size < b; omega, k5⟩
theorem RS.end2 (h : RS w q bs b W) (hql : q < w.heap.size) (c0 c1 c2 c3 c4 c5 : Value) (c x : Int) :
    Blk (setR W w.heap.size c0 c1 c2 c3 c4 c5 c x).drew w.heap.size 24 #[c0, c1, c2, c3, c4, c5] ∧ Blk (setR W w.heap.size c0 c1 c2 c3 c4 c5 c x).drew (w.heap.size + 1) 48 #[.int .i64 c, .int .i64 x] ∧
    w.grownBy (setR W w.heap.size c0 c1 c2 c3 c4 c5 c x).drew (some q) ∧ RefR (setR W w.heap.size c0 c1 c2 c3 c4 c5 c x).drew q bs b 0 ∧
    (∀ v zs, IntsA (fun k => w.heap.size + 1 < k) W v zs → IntsA (fun k => w.heap.size < k) (setR W w.heap.size c0 c1 c2 c3 c4 c5 c x).drew v zs) := by
  obtain ⟨a1, a2, a3, a4, a5⟩ := h.end_ hql c0 c1 c2 c3 c4 c5 c x
  have hd : (setR W w.heap.size c0 c1 c2 c3 c4 c5 c x).grownBy (setR W w.heap.size c0 c1 c2 c3 c4 c5 c x).drew none := only_drew (only_refl _ _)
  exact ⟨a1.kept hd, a2.kept hd, only_trans a3 (only_weak hd _), a4.kept hd (fun e => by cases e), fun v zs h => (a5 v zs h).row hd (fun _ _ e => by cases e)⟩
end
/-- What the document's Read answers. -/
def RRead (q : Nat) (bs : List UInt8) (r : Rs Ins) (w : World) (e : Ending) (w' : World) : Prop := match r with
  | .ok x b => ∃ s : Sg, s.ins x.op = x ∧ e = .returned (.tuple #[.agg (s.cells x.op), .agg #[.int .i64 0, .int .i64 0]]) ∧ IntsA (fun k => w.heap.size < k) w' s.lv s.l ∧ w.grownBy w' (some q) ∧ RefR w' q bs b 0
  | .flt c y b => e = .returned (.tuple #[.agg #[.int .i64 0, .int .i64 0, .int .i64 0, .int .i64 0, .int .i64 0, .slice none 0 0], .agg #[.int .i64 c, .int .i64 (y : Int)]]) ∧ w.grownBy w' (some q) ∧ RefR w' q bs b 0
theorem clN_eq {u : Nat} : clN u = clI (u : Int) := by
  unfold clI
  rw [if_neg (by omega)]
  rfl
end Go.Proofs.YtmbdaenjeeklfaaDoor

/- The document's answer for instructions (colloquyref09): Read: what it answers, and what it leaves. -/
namespace Go.Proofs.YtmbdaenjeeklfaaDoor
open Go.RowKit

set_option maxRecDepth 100000 in
set_option maxHeartbeats 40000000 in
theorem rread_any {w : World} {q a : Nat} {bs : List UInt8} (h : RefR w q bs a 0) :
    Calls Tryd.prog 22 #[.pointer (some ⟨q, 0, none⟩)] w (RRead q bs (readI bs a) w) := by
  have hql := h.lt
  have hle := ref_le h
  have h0 : w.grownBy ((w.alloc (.cells #[.int .i64 0, .int .i64 0, .int .i64 0, .int .i64 0, .int .i64 0, .slice none 0 0] 24)).alloc (.cells #[.int .i64 0, .int .i64 0] 48)) none := only_alloc (only_alloc (only_refl _ _) _) _
  have S0 : RS w q bs a ((w.alloc (.cells #[.int .i64 0, .int .i64 0, .int .i64 0, .int .i64 0, .int .i64 0, .slice none 0 0] 24)).alloc (.cells #[.int .i64 0, .int .i64 0] 48)) :=
    ⟨(Blk.new w _ _).alloc _, by
      have := Blk.new (w.alloc (.cells #[.int .i64 0, .int .i64 0, .int .i64 0, .int .i64 0, .int .i64 0, .slice none 0 0] 24)) 48 #[.int .i64 0, .int .i64 0]
      simpa using this, only_weak h0 _, h.kept h0 (fun e => by cases e)⟩
  obtain ⟨res, hres⟩ : ∃ res, readI bs a = res := ⟨_, rfl⟩
  rw [hres]
  have HRS := Lib.hid hres
  have hpl := rplace_any S0.rd
  rw [cast0] at hpl
  have HS0 := Lib.hid S0
  clear h h0 hres S0
  go_enter Tryd.func22, Tryd.ntmps22
  go_wp2_with fail
  refine hpl.mono ?_
  rintro e w1 ⟨rfl, hg1⟩
  have HS1 := Lib.hid (HS0.out.none_ hg1)
  clear hpl hg1 HS0
  cases hu : bs[a]? with
  | none =>
    have hal : a = bs.length := by
      have := List.getElem?_eq_none_iff.1 hu
      omega
    have HRI : Hid (res = .flt 3 a a) := by
      show _ = _
      rw [← HRS.out]
      unfold readI
      rw [hu]
    have hby := rbyte_short HS1.out.rd hal
    rw [cast0] at hby
    clear hu hal HRS
    go_wp2_with fail
    refine hby.mono ?_
    rintro e w2 ⟨rfl, hg2⟩
    have S2 := HS1.out.none_ hg2
    have ha3 := only_alloc (only_refl w2 none) (.cells #[.int .i64 3, .int .i64 (a : Int)] 48)
    have hb3 := Blk.new w2 48 #[.int .i64 3, .int .i64 (a : Int)]
    have hn2 : w.heap.size + 1 < w2.heap.size := S2.r3.lt
    have HS3 := Lib.hid (S2.none_ ha3)
    clear S2 hg2 hby HS1 ha3
    go_upto_region 4 with fail
    generalize w2.alloc (.cells #[.int .i64 3, .int .i64 (a : Int)] 48) = w3 at *
    generalize w2.heap.size = nb at *
    have y0 := hb3.cell 0
    have y1 := hb3.cell 1
    have d1 : ¬ (nb = w.heap.size) := by omega
    have d2 : ¬ (w.heap.size = nb) := by omega
    have d3 : ¬ (nb = w.heap.size + 1) := by omega
    have d4 : ¬ (w.heap.size + 1 = nb) := by omega
    have m0 := HS3.out.r2.cell 0
    have m1 := HS3.out.r2.cell 1
    have m2 := HS3.out.r2.cell 2
    have m3 := HS3.out.r2.cell 3
    have m4 := HS3.out.r2.cell 4
    have m5 := HS3.out.r2.cell 5
    have f0 := HS3.out.r2.frozen 0
    have f1 := HS3.out.r2.frozen 1
    have f2 := HS3.out.r2.frozen 2
    have f3 := HS3.out.r2.frozen 3
    have f4 := HS3.out.r2.frozen 4
    have f5 := HS3.out.r2.frozen 5
    have k0 := HS3.out.r3.cell 0
    have k1 := HS3.out.r3.cell 1
    have n0 := HS3.out.r3.frozen 0
    have n1 := HS3.out.r3.frozen 1
    clear hb3
    go_region
    all_goals go_wp2
    obtain ⟨e4, e5, eg, er, ei⟩ := HS3.out.end2 hql (.int .i64 0) (.int .i64 0) (.int .i64 0) (.int .i64 0) (.int .i64 0) (.slice none 0 0) (3) ((a : Int))
    unfold setR at e4 e5 eg er ei
    have q0 := e4.cell 0
    have q1 := e4.cell 1
    have q2 := e4.cell 2
    have q3 := e4.cell 3
    have q4 := e4.cell 4
    have q5 := e4.cell 5
    have s0 := e5.cell 0
    have s1 := e5.cell 1
    exact bodyPost_ret (v := .tuple #[.agg #[.int .i64 0, .int .i64 0, .int .i64 0, .int .i64 0, .int .i64 0, .slice none 0 0], .agg #[.int .i64 (3), .int .i64 ((a : Int))]]) (by simp [results, Tryd.results22, go_sem, q0, q1, q2, q3, q4, q5, s0, s1]) rfl (by rw [HRI.out]; exact ⟨rfl, eg, er⟩)
  | some u =>
    have hby := rbyte_ok HS1.out.rd u hu
    have u0 : 0 ≤ (u.toNat : Int) := by omega
    have u1 : (u.toNat : Int) ≤ 255 := by have := u.toNat_lt; omega
    have HRI : Hid (res = fin a (opsR (clN u.toNat) (u.toNat : Int) bs (a + 1))) := by
      show _ = _
      rw [← HRS.out]
      unfold readI
      rw [hu]
    clear hu HRS
    rw [clN_eq] at HRI
    generalize (u.toNat : Int) = op at *
    go_wp2_with fail
    refine hby.mono ?_
    rintro e w2 ⟨rfl, hg2, hr2⟩
    have S2 := HS1.out.call hql hg2 hr2
    have ha3 := only_alloc (only_refl w2 none) (.cells #[.int .i64 0, .int .i64 0] 48)
    have hb3 := Blk.new w2 48 #[.int .i64 0, .int .i64 0]
    have HS3 := Lib.hid (S2.none_ ha3)
    have HB3 := Lib.hid hb3
    have HN2 : Hid (w.heap.size + 1 < w2.heap.size) := S2.r3.lt
    clear S2 hg2 hr2 hby HS1 ha3 hb3
    by_cases h24 : op ≤ 24
    · have hro := roperands_any HS3.out.rd op u0 h24
      have HCI : Hid (clI op ≠ .no) := clI_of u0 h24
      cases hor : opsR (clI op) op bs (a + 1) with
      | flt c y b =>
        rw [hor] at hro HRI
        have hc : (c == 0) = false := by simpa using run_flt _ _ _ _ c y b hor
        clear hor
        go_wp2_with fail
        refine hro.mono ?_
        rintro e w4 ⟨s, op2, Al, nl, cl, hlv, rfl, hg4, hr4⟩
        obtain ⟨a1, b1, c1, d1, lv, l⟩ := s
        dsimp only at hlv
        subst hlv
        unfold Sg.cells
        dsimp only
        have S4 := HS3.out.call hql hg4 hr4
        have hb4 := HB3.out.grown hg4 (fun e => by injection e with e; have := HN2.out; omega)
        have g45 : w4.grownBy ((w4.setCell ⟨w2.heap.size, 0, none⟩ (.int .i64 (c))).setCell ⟨w2.heap.size, 1, none⟩ (.int .i64 ((y : Int)))) (some w2.heap.size) := only_setCell (p := ⟨w2.heap.size, 1, none⟩) (only_setCell (p := ⟨w2.heap.size, 0, none⟩) (only_refl _ _) rfl _) rfl _
        have ha5 := only_alloc (only_refl ((w4.setCell ⟨w2.heap.size, 0, none⟩ (.int .i64 (c))).setCell ⟨w2.heap.size, 1, none⟩ (.int .i64 ((y : Int)))) none) (.cells #[.int .i64 op2, .int .i64 a1, .int .i64 b1, .int .i64 c1, .int .i64 d1, .slice Al nl cl] 24)
        have S5 := (S4.at_ g45 HN2.out hql).none_ ha5
        have hf5 : Blk (((w4.setCell ⟨w2.heap.size, 0, none⟩ (.int .i64 (c))).setCell ⟨w2.heap.size, 1, none⟩ (.int .i64 ((y : Int)))).alloc (.cells #[.int .i64 op2, .int .i64 a1, .int .i64 b1, .int .i64 c1, .int .i64 d1, .slice Al nl cl] 24)) w2.heap.size 48 #[.int .i64 (c), .int .i64 ((y : Int))] := ((hb4.set_ 0 (.int .i64 (c))).set_ 1 (.int .i64 ((y : Int)))).alloc _
        have hx5 : Blk (((w4.setCell ⟨w2.heap.size, 0, none⟩ (.int .i64 (c))).setCell ⟨w2.heap.size, 1, none⟩ (.int .i64 ((y : Int)))).alloc (.cells #[.int .i64 op2, .int .i64 a1, .int .i64 b1, .int .i64 c1, .int .i64 d1, .slice Al nl cl] 24)) w4.heap.size 24 #[.int .i64 op2, .int .i64 a1, .int .i64 b1, .int .i64 c1, .int .i64 d1, .slice Al nl cl] := by
          have := Blk.new ((w4.setCell ⟨w2.heap.size, 0, none⟩ (.int .i64 (c))).setCell ⟨w2.heap.size, 1, none⟩ (.int .i64 ((y : Int)))) 24 #[.int .i64 op2, .int .i64 a1, .int .i64 b1, .int .i64 c1, .int .i64 d1, .slice Al nl cl]
          simpa using this
        have b40 := hb4.frozen 0
        have b41 := hb4.frozen 1
        have b42 := hb4.cell 0
        have b43 := hb4.cell 1
        have hn4 := hb4.lt
        have HS5 := Lib.hid S5
        clear hg4 hr4 hb4 S4 g45 ha5 S5
        go_upto_region 9 with fail
        generalize ((w4.setCell ⟨w2.heap.size, 0, none⟩ (.int .i64 (c))).setCell ⟨w2.heap.size, 1, none⟩ (.int .i64 ((y : Int)))).alloc (.cells #[.int .i64 op2, .int .i64 a1, .int .i64 b1, .int .i64 c1, .int .i64 d1, .slice Al nl cl] 24) = w5 at *
        have hnb := HN2.out
        clear b40 b41 b42 b43
        generalize w4.heap.size = nx at *
        generalize w2.heap.size = nb at *
        have y0 := hf5.cell 0
        have y1 := hf5.cell 1
        have d1 : ¬ (nb = w.heap.size) := by omega
        have d2 : ¬ (w.heap.size = nb) := by omega
        have d3 : ¬ (nb = w.heap.size + 1) := by omega
        have d4 : ¬ (w.heap.size + 1 = nb) := by omega
        have m0 := HS5.out.r2.cell 0
        have m1 := HS5.out.r2.cell 1
        have m2 := HS5.out.r2.cell 2
        have m3 := HS5.out.r2.cell 3
        have m4 := HS5.out.r2.cell 4
        have m5 := HS5.out.r2.cell 5
        have f0 := HS5.out.r2.frozen 0
        have f1 := HS5.out.r2.frozen 1
        have f2 := HS5.out.r2.frozen 2
        have f3 := HS5.out.r2.frozen 3
        have f4 := HS5.out.r2.frozen 4
        have f5 := HS5.out.r2.frozen 5
        have k0 := HS5.out.r3.cell 0
        have k1 := HS5.out.r3.cell 1
        have n0 := HS5.out.r3.frozen 0
        have n1 := HS5.out.r3.frozen 1
        clear hf5 hx5
        go_region
        all_goals go_wp2
        obtain ⟨e4, e5, eg, er, ei⟩ := HS5.out.end2 hql (.int .i64 0) (.int .i64 0) (.int .i64 0) (.int .i64 0) (.int .i64 0) (.slice none 0 0) (c) ((y : Int))
        unfold setR at e4 e5 eg er ei
        have q0 := e4.cell 0
        have q1 := e4.cell 1
        have q2 := e4.cell 2
        have q3 := e4.cell 3
        have q4 := e4.cell 4
        have q5 := e4.cell 5
        have s0 := e5.cell 0
        have s1 := e5.cell 1
        exact bodyPost_ret (v := .tuple #[.agg #[.int .i64 0, .int .i64 0, .int .i64 0, .int .i64 0, .int .i64 0, .slice none 0 0], .agg #[.int .i64 (c), .int .i64 ((y : Int))]]) (by simp [results, Tryd.results22, go_sem, q0, q1, q2, q3, q4, q5, s0, s1]) rfl (by rw [HRI.out]; exact ⟨rfl, eg, er⟩)
      | ok x b =>
        rw [hor] at hro HRI
        have hl8 := opsR_len hor
        obtain ⟨hxo, hxa, _, _, _⟩ := opsR_is (ref_le HS3.out.rd) hor
        clear hor
        go_wp2_with fail
        refine hro.mono ?_
        rintro e w4 ⟨s, hs, rfl, hI4, hg4, hr4⟩
        obtain ⟨a1, b1, c1, d1, lv, l⟩ := s
        obtain ⟨Al, cl, hlv, _⟩ := id hI4
        dsimp only at hlv
        subst hlv
        rw [hxo] at hs ⊢
        have hll : l.length ≤ 8 := by rw [← hs] at hl8; exact hl8
        unfold Sg.cells
        dsimp only
        have S4 := HS3.out.call hql hg4 hr4
        have hb4 := HB3.out.grown hg4 (fun e => by injection e with e; have := HN2.out; omega)
        have g45 : w4.grownBy ((w4.setCell ⟨w2.heap.size, 0, none⟩ (.int .i64 (0))).setCell ⟨w2.heap.size, 1, none⟩ (.int .i64 (0))) (some w2.heap.size) := only_setCell (p := ⟨w2.heap.size, 1, none⟩) (only_setCell (p := ⟨w2.heap.size, 0, none⟩) (only_refl _ _) rfl _) rfl _
        have ha5 := only_alloc (only_refl ((w4.setCell ⟨w2.heap.size, 0, none⟩ (.int .i64 (0))).setCell ⟨w2.heap.size, 1, none⟩ (.int .i64 (0))) none) (.cells #[.int .i64 op, .int .i64 a1, .int .i64 b1, .int .i64 c1, .int .i64 d1, .slice Al l.length cl] 24)
        have S5 := (S4.at_ g45 HN2.out hql).none_ ha5
        have hf5 : Blk (((w4.setCell ⟨w2.heap.size, 0, none⟩ (.int .i64 (0))).setCell ⟨w2.heap.size, 1, none⟩ (.int .i64 (0))).alloc (.cells #[.int .i64 op, .int .i64 a1, .int .i64 b1, .int .i64 c1, .int .i64 d1, .slice Al l.length cl] 24)) w2.heap.size 48 #[.int .i64 (0), .int .i64 (0)] := ((hb4.set_ 0 (.int .i64 (0))).set_ 1 (.int .i64 (0))).alloc _
        have hx5 : Blk (((w4.setCell ⟨w2.heap.size, 0, none⟩ (.int .i64 (0))).setCell ⟨w2.heap.size, 1, none⟩ (.int .i64 (0))).alloc (.cells #[.int .i64 op, .int .i64 a1, .int .i64 b1, .int .i64 c1, .int .i64 d1, .slice Al l.length cl] 24)) w4.heap.size 24 #[.int .i64 op, .int .i64 a1, .int .i64 b1, .int .i64 c1, .int .i64 d1, .slice Al l.length cl] := by
          have := Blk.new ((w4.setCell ⟨w2.heap.size, 0, none⟩ (.int .i64 (0))).setCell ⟨w2.heap.size, 1, none⟩ (.int .i64 (0))) 24 #[.int .i64 op, .int .i64 a1, .int .i64 b1, .int .i64 c1, .int .i64 d1, .slice Al l.length cl]
          simpa using this
        have b40 := hb4.frozen 0
        have b41 := hb4.frozen 1
        have b42 := hb4.cell 0
        have b43 := hb4.cell 1
        have hn4 := hb4.lt
        have HS5 := Lib.hid S5
        have hI5 : IntsA (fun k => w.heap.size + 1 < k) (((w4.setCell ⟨w2.heap.size, 0, none⟩ (.int .i64 (0))).setCell ⟨w2.heap.size, 1, none⟩ (.int .i64 (0))).alloc (.cells #[.int .i64 op, .int .i64 a1, .int .i64 b1, .int .i64 c1, .int .i64 d1, .slice Al l.length cl] 24)) (.slice Al l.length cl) l := ints_more (((ints_more hI4 (Nat.le_of_lt HB3.out.lt)).row g45 (fun b hb e => by injection e with e; have hb' : w2.heap.size < b := hb; omega)).row ha5 (fun _ _ e => by cases e)) (Nat.le_of_lt HN2.out)
        have HI5 := Lib.hid hI5
        have HH := Lib.hid hs
        have HXO := Lib.hid hxo
        clear hg4 hr4 hb4 S4 g45 ha5 S5 hI4 hI5 hs hl8 hxa hxo
        go_upto_region 10 with fail
        generalize ((w4.setCell ⟨w2.heap.size, 0, none⟩ (.int .i64 (0))).setCell ⟨w2.heap.size, 1, none⟩ (.int .i64 (0))).alloc (.cells #[.int .i64 op, .int .i64 a1, .int .i64 b1, .int .i64 c1, .int .i64 d1, .slice Al l.length cl] 24) = w5 at *
        have hnb := HN2.out
        clear b40 b41 b42 b43
        have hnx : w2.heap.size < w4.heap.size := hn4
        generalize w4.heap.size = nx at *
        generalize w2.heap.size = nb at *
        have x0 := hx5.cell 0
        have x1 := hx5.cell 1
        have x2 := hx5.cell 2
        have x3 := hx5.cell 3
        have x4 := hx5.cell 4
        have x5 := hx5.cell 5
        have hck := rcheck_any ⟨a1, b1, c1, d1, .slice Al l.length cl, l⟩ op w5 HI5.out.below (show l.length ≤ 1000 by omega)
        rw [HH.out] at hck
        unfold Sg.cells at hck
        dsimp only at hck
        have HF5 := Lib.hid hf5
        have HX5 := Lib.hid hx5
        clear hf5 hx5 hn4
        have hor := chkC_or (clI x.op) x
        have hnn : chkI x ≠ 11 := by
          intro e
          have := HXO.out
          unfold chkI at e
          rw [this] at e
          rw [chkC_doc _ _ HCI.out] at e
          split at e <;> cases e
        have hor2 : chkI x = 0 ∨ chkI x = 2 := by
          rcases hor with h | h | h
          · exact .inl h
          · exact .inr h
          · exact absurd h hnn
        clear hor hnn
        rcases hor2 with h0 | h2
        · have HRK : Hid (res = .ok x b) := by
            show _ = _
            rw [HRI.out]
            unfold fin
            rw [Rs.bind_ok, if_pos h0]
          rw [h0] at hck
          clear h0
          go_wp2_with fail
          refine hck.mono ?_
          rintro e w6 ⟨rfl, hg6⟩
          have HS6 := Lib.hid (HS5.out.none_ hg6)
          have hf6 := HF5.out.kept hg6
          have hx6 := HX5.out.kept hg6
          have HI6 := Lib.hid (HI5.out.row hg6 (fun _ _ e => by cases e))
          replace x0 := hx6.cell 0
          replace x1 := hx6.cell 1
          replace x2 := hx6.cell 2
          replace x3 := hx6.cell 3
          replace x4 := hx6.cell 4
          replace x5 := hx6.cell 5
          have y0 := hf6.cell 0
          have y1 := hf6.cell 1
          have d1 : ¬ (nb = w.heap.size) := by omega
          have d2 : ¬ (w.heap.size = nb) := by omega
          have d3 : ¬ (nb = w.heap.size + 1) := by omega
          have d4 : ¬ (w.heap.size + 1 = nb) := by omega
          have g1 : ¬ (nx = w.heap.size) := by omega
          have g2 : ¬ (w.heap.size = nx) := by omega
          have g3 : ¬ (nx = w.heap.size + 1) := by omega
          have g4 : ¬ (w.heap.size + 1 = nx) := by omega
          have m0 := HS6.out.r2.cell 0
          have m1 := HS6.out.r2.cell 1
          have m2 := HS6.out.r2.cell 2
          have m3 := HS6.out.r2.cell 3
          have m4 := HS6.out.r2.cell 4
          have m5 := HS6.out.r2.cell 5
          have f0 := HS6.out.r2.frozen 0
          have f1 := HS6.out.r2.frozen 1
          have f2 := HS6.out.r2.frozen 2
          have f3 := HS6.out.r2.frozen 3
          have f4 := HS6.out.r2.frozen 4
          have f5 := HS6.out.r2.frozen 5
          have k0 := HS6.out.r3.cell 0
          have k1 := HS6.out.r3.cell 1
          have n0 := HS6.out.r3.frozen 0
          have n1 := HS6.out.r3.frozen 1
          clear hck hg6 hf6 hx6
          obtain ⟨k1, rfl⟩ : ∃ k1, nb = w.heap.size + (k1 + 2) := ⟨nb - w.heap.size - 2, by have := HN2.out; omega⟩
          obtain ⟨k2, rfl⟩ : ∃ k2, nx = w.heap.size + (k2 + 2) := ⟨nx - w.heap.size - 2, by omega⟩
          go_upto_region 12 with fail
          clear d1 d2 d3 d4 g1 g2 g3 g4
          clear u0 u1 h24 hle HCI HRI HN2 HB3 HS3 HF5 HX5 HI5 HS5 hll hnb hnx
          go_region
          all_goals go_wp2
          obtain ⟨e4, e5, eg, er, ei⟩ := HS6.out.end2 hql (.int .i64 op) (.int .i64 a1) (.int .i64 b1) (.int .i64 c1) (.int .i64 d1) (.slice Al l.length cl) (0) (0)
          unfold setR at e4 e5 eg er ei
          have q0 := e4.cell 0
          have q1 := e4.cell 1
          have q2 := e4.cell 2
          have q3 := e4.cell 3
          have q4 := e4.cell 4
          have q5 := e4.cell 5
          have s0 := e5.cell 0
          have s1 := e5.cell 1
          exact bodyPost_ret (v := .tuple #[.agg #[.int .i64 op, .int .i64 a1, .int .i64 b1, .int .i64 c1, .int .i64 d1, .slice Al l.length cl], .agg #[.int .i64 (0), .int .i64 (0)]]) (by simp [results, Tryd.results22, go_sem, q0, q1, q2, q3, q4, q5, s0, s1]) rfl (by rw [HRK.out]; exact ⟨⟨a1, b1, c1, d1, .slice Al l.length cl, l⟩, by rw [HXO.out]; exact HH.out, by rw [HXO.out]; rfl, ei _ _ HI6.out, eg, er⟩)
        · have HRK : Hid (res = .flt 2 a b) := by
            show _ = _
            rw [HRI.out]
            unfold fin
            rw [Rs.bind_ok, if_neg (by rw [h2]; decide), h2]
          rw [h2] at hck
          clear h2
          go_wp2_with fail
          refine hck.mono ?_
          rintro e w6 ⟨rfl, hg6⟩
          have HS6 := Lib.hid (HS5.out.none_ hg6)
          have m0 := HS6.out.r2.cell 0
          have m1 := HS6.out.r2.cell 1
          have m2 := HS6.out.r2.cell 2
          have m3 := HS6.out.r2.cell 3
          have m4 := HS6.out.r2.cell 4
          have m5 := HS6.out.r2.cell 5
          have f0 := HS6.out.r2.frozen 0
          have f1 := HS6.out.r2.frozen 1
          have f2 := HS6.out.r2.frozen 2
          have f3 := HS6.out.r2.frozen 3
          have f4 := HS6.out.r2.frozen 4
          have f5 := HS6.out.r2.frozen 5
          have k0 := HS6.out.r3.cell 0
          have k1 := HS6.out.r3.cell 1
          have n0 := HS6.out.r3.frozen 0
          have n1 := HS6.out.r3.frozen 1
          clear hck hg6
          go_wp2_with fail
          obtain ⟨e4, e5, eg, er, ei⟩ := HS6.out.end_ hql (.int .i64 0) (.int .i64 0) (.int .i64 0) (.int .i64 0) (.int .i64 0) (.slice none 0 0) (2) ((a : Int))
          unfold setR at e4 e5 eg er ei
          have q0 := e4.cell 0
          have q1 := e4.cell 1
          have q2 := e4.cell 2
          have q3 := e4.cell 3
          have q4 := e4.cell 4
          have q5 := e4.cell 5
          have s0 := e5.cell 0
          have s1 := e5.cell 1
          exact bodyPost_ret (v := .tuple #[.agg #[.int .i64 0, .int .i64 0, .int .i64 0, .int .i64 0, .int .i64 0, .slice none 0 0], .agg #[.int .i64 (2), .int .i64 ((a : Int))]]) (by simp [results, Tryd.results22, go_sem, q0, q1, q2, q3, q4, q5, s0, s1]) rfl (by rw [HRK.out]; exact ⟨rfl, eg, er⟩)
    · have HRK : Hid (res = .flt 11 a (a + 1)) := by
        show _ = _
        rw [HRI.out, clI_no (.inr (by omega))]
        show fin a (.ok (ins0 op) (a + 1)) = _
        unfold fin
        rw [Rs.bind_ok]
        have : chkI (ins0 op) = 11 := by
          unfold chkI
          rw [show (ins0 op).op = op from rfl, clI_no (.inr (by omega))]
          rfl
        rw [if_neg (by rw [this]; decide), this]
      have hgt : 24 < op := by omega
      clear h24
      have m0 := HS3.out.r2.cell 0
      have m1 := HS3.out.r2.cell 1
      have m2 := HS3.out.r2.cell 2
      have m3 := HS3.out.r2.cell 3
      have m4 := HS3.out.r2.cell 4
      have m5 := HS3.out.r2.cell 5
      have f0 := HS3.out.r2.frozen 0
      have f1 := HS3.out.r2.frozen 1
      have f2 := HS3.out.r2.frozen 2
      have f3 := HS3.out.r2.frozen 3
      have f4 := HS3.out.r2.frozen 4
      have f5 := HS3.out.r2.frozen 5
      have k0 := HS3.out.r3.cell 0
      have k1 := HS3.out.r3.cell 1
      have n0 := HS3.out.r3.frozen 0
      have n1 := HS3.out.r3.frozen 1
      go_wp2_with fail
      obtain ⟨e4, e5, eg, er, ei⟩ := HS3.out.end_ hql (.int .i64 0) (.int .i64 0) (.int .i64 0) (.int .i64 0) (.int .i64 0) (.slice none 0 0) (11) ((a : Int))
      unfold setR at e4 e5 eg er ei
      have q0 := e4.cell 0
      have q1 := e4.cell 1
      have q2 := e4.cell 2
      have q3 := e4.cell 3
      have q4 := e4.cell 4
      have q5 := e4.cell 5
      have s0 := e5.cell 0
      have s1 := e5.cell 1
      exact bodyPost_ret (v := .tuple #[.agg #[.int .i64 0, .int .i64 0, .int .i64 0, .int .i64 0, .int .i64 0, .slice none 0 0], .agg #[.int .i64 (11), .int .i64 ((a : Int))]]) (by simp [results, Tryd.results22, go_sem, q0, q1, q2, q3, q4, q5, s0, s1]) rfl (by rw [HRK.out]; exact ⟨rfl, eg, er⟩)
end Go.Proofs.YtmbdaenjeeklfaaDoor

/- The document's answer for instructions (colloquyref09): Same: of two that are alike. -/
namespace Go.Proofs.YtmbdaenjeeklfaaDoor
open Go.RowKit

set_option maxRecDepth 100000 in
set_option maxHeartbeats 4000000 in
theorem rsame_any {S1 S2 : Nat → Prop} (s : Sg) (op : Int) (lv2 : Value) (w : World) (h1 : IntsA S1 w s.lv s.l) (h2 : IntsA S2 w lv2 s.l) (h12 : s.l.length ≤ 1000) :
    Calls Tryd.prog 23 #[.agg (s.cells op), .agg (Sg.cells { s with lv := lv2 } op)] w fun e w' => e = .returned (.bool true) ∧ w.grownBy w' none := by
  obtain ⟨a, b, c, d, lv, l⟩ := s
  obtain ⟨A1, c1, e1, k1⟩ := h1
  obtain ⟨A2, c2, e2, k2⟩ := h2
  dsimp only at e1 k1 e2 k2 h12
  subst e1 e2
  have h0 : w.grownBy ((w.alloc (.cells #[.int .i64 op, .int .i64 a, .int .i64 b, .int .i64 c, .int .i64 d, .slice A1 l.length c1] 24)).alloc (.cells #[.int .i64 op, .int .i64 a, .int .i64 b, .int .i64 c, .int .i64 d, .slice A2 l.length c2] 24)) none := only_alloc (only_alloc (only_refl _ _) _) _
  have b1 := (Blk.new w 24 #[.int .i64 op, .int .i64 a, .int .i64 b, .int .i64 c, .int .i64 d, .slice A1 l.length c1]).alloc (.cells #[.int .i64 op, .int .i64 a, .int .i64 b, .int .i64 c, .int .i64 d, .slice A2 l.length c2] 24)
  have b2 : Blk ((w.alloc (.cells #[.int .i64 op, .int .i64 a, .int .i64 b, .int .i64 c, .int .i64 d, .slice A1 l.length c1] 24)).alloc (.cells #[.int .i64 op, .int .i64 a, .int .i64 b, .int .i64 c, .int .i64 d, .slice A2 l.length c2] 24)) (w.heap.size + 1) 24 #[.int .i64 op, .int .i64 a, .int .i64 b, .int .i64 c, .int .i64 d, .slice A2 l.length c2] := blk_new_at (by simp) _ _
  have x0 := b1.cell 0
  have x1 := b1.cell 1
  have x2 := b1.cell 2
  have x3 := b1.cell 3
  have x4 := b1.cell 4
  have x5 := b1.cell 5
  have y0 := b2.cell 0
  have y1 := b2.cell 1
  have y2 := b2.cell 2
  have y3 := b2.cell 3
  have y4 := b2.cell 4
  have y5 := b2.cell 5
  have H0 := Lib.hid h0
  have B1 := Lib.hid b1
  have B2 := Lib.hid b2
  have K1 := Lib.hid k1
  have K2 := Lib.hid k2
  clear h0 b1 b2 k1 k2
  unfold Sg.cells
  dsimp only
  go_enter Tryd.func23, Tryd.ntmps23
  go_wp2_with fail
  generalize ((w.alloc (.cells #[.int .i64 op, .int .i64 a, .int .i64 b, .int .i64 c, .int .i64 d, .slice A1 l.length c1] 24)).alloc (.cells #[.int .i64 op, .int .i64 a, .int .i64 b, .int .i64 c, .int .i64 d, .slice A2 l.length c2] 24)) = W2 at *
  clear x0 x1 x2 x3 x4 x5 y0 y1 y2 y3 y4 y5
  go_loopw [5] (fun v wr => ∃ j : Nat, v = .int .i64 (j : Int) ∧ j ≤ l.length ∧ W2.grownBy wr none) (fun v _ => l.length - (intOf v).toNat)
  case atStart => exact ⟨0, rfl, by omega, only_refl _ _⟩
  case round =>
    obtain ⟨j, rfl, hj, hg⟩ := hrel
    have x5 := (B1.out.kept hg).cell 5
    have y5 := (B2.out.kept hg).cell 5
    by_cases hlt : j < l.length
    · have hne : l ≠ [] := by intro e; rw [e] at hlt; simp at hlt
      obtain ⟨g1, o1, rfl, _, q1⟩ := K1.out hne
      obtain ⟨g2, o2, rfl, _, q2⟩ := K2.out hne
      have r1 := cell_row (cell_row (q1 j _ (List.getElem?_eq_getElem hlt)) H0.out (fun e => by cases e)) hg (fun e => by cases e)
      have r2 := cell_row (cell_row (q2 j _ (List.getElem?_eq_getElem hlt)) H0.out (fun e => by cases e)) hg (fun e => by cases e)
      generalize l[j] = z at r1 r2
      have i0 : (0 : Int) ≤ (j : Int) := by omega
      have i1 : (j : Int) < (l.length : Int) := by omega
      have HG := Lib.hid hg
      clear q1 q2 hg
      go_wp2_with fail
      go_quiet (fail)
      go_wp2_with fail
      go_roundw
      case rel => exact ⟨j + 1, by go_num, by omega, only_drewN HG.out _⟩
      case measure => simp [intOf]; omega
    · have i1 : (l.length : Int) ≤ (j : Int) := by omega
      have HG := Lib.hid hg
      clear hg
      go_wp2_with fail
      go_ret
      exact ⟨rfl, only_trans H0.out HG.out⟩

end Go.Proofs.YtmbdaenjeeklfaaDoor

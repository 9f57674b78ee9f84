/- The statements' coded: rows as a code. -/
import Derived.Test.YtgdoklbcmgkllaaBWks
namespace Go.Proofs.Ytgdoklbcmgkllaa
open Go.RowKit

/-- A row: op, many, three targets. -/
structure Rw where
  op : Nat
  many : Nat
  l0 : Nat
  l1 : Nat
  l2 : Nat
def Rw.cells (r : Rw) : Array Value := #[.int .u8 (r.op : Int), .int .u8 (r.many : Int), .int .u8 (r.l0 : Int), .int .u8 (r.l1 : Int), .int .u8 (r.l2 : Int)]
structure Rw.ok (r : Rw) : Prop where
  h0 : r.op < 256
  h1 : r.many < 256
  h2 : r.l0 < 256
  h3 : r.l1 < 256
  h4 : r.l2 < 256
/-- Rows in memory. -/
def RowsA (W : World) (v : Value) (rs : List Rw) : Prop := ∃ (A : Option Addr) (c : Nat), v = .slice A rs.length c ∧ rs.length ≤ c ∧ c ≤ 9223372036854775807 ∧
  (rs ≠ [] → ∃ b off, A = some ⟨b, off, none⟩ ∧ ∀ (i : Nat) (r : Rw), rs[i]? = some r → r.ok ∧ ∀ (j : Nat) (u : Value), r.cells[j]? = some u → W.cell? ⟨b, off + i * 5 + j, none⟩ = some u)
theorem RowsA.kept {W W' : World} {v : Value} {rs : List Rw} (h : RowsA W v rs) (hg : W.grownBy W' none) : RowsA W' v rs := by
  obtain ⟨A, c, h1, h2, h3, h4⟩ := h
  refine ⟨A, c, h1, h2, h3, fun hn => ?_⟩
  obtain ⟨b, off, h5, h6⟩ := h4 hn
  refine ⟨b, off, h5, fun i r hr => ?_⟩
  obtain ⟨h7, h8⟩ := h6 i r hr
  exact ⟨h7, fun j u hu => cell_row (h8 j u hu) hg (fun e => by cases e)⟩
theorem RowsA.at_ {W : World} {A : Option Addr} {n c : Nat} {rs : List Rw} (h : RowsA W (.slice A n c) rs) {i : Nat} {r : Rw} (hr : rs[i]? = some r) : ∃ b off, A = some ⟨b, off, none⟩ ∧ r.ok ∧ W.cell? ⟨b, off + i * 5, none⟩ = some (.int .u8 (r.op : Int)) ∧ W.cell? ⟨b, off + i * 5 + 1, none⟩ = some (.int .u8 (r.many : Int)) ∧ W.cell? ⟨b, off + i * 5 + 2, none⟩ = some (.int .u8 (r.l0 : Int)) ∧ W.cell? ⟨b, off + i * 5 + 2 + 1, none⟩ = some (.int .u8 (r.l1 : Int)) ∧ W.cell? ⟨b, off + i * 5 + 2 + 2, none⟩ = some (.int .u8 (r.l2 : Int)) := by
  obtain ⟨A', c', e, _, _, h4⟩ := h
  injection e with e1 e2 e3
  subst e1
  obtain ⟨b, off, h5, h6⟩ := h4 (by intro e; rw [e] at hr; simp at hr)
  obtain ⟨h7, h8⟩ := h6 i r hr
  exact ⟨b, off, h5, h7, h8 0 _ rfl, h8 1 _ rfl, h8 2 _ rfl, h8 3 _ rfl, h8 4 _ rfl⟩
/-- Its beginning. -/
theorem RowsA.take_ {W : World} {A : Option Addr} {n c : Nat} {rs : List Rw} (h : RowsA W (.slice A n c) rs) (m : Nat) (hm : m ≤ rs.length) : RowsA W (.slice A m c) (rs.take m) := by
  obtain ⟨A', c', e, h2, h3, hA⟩ := h
  injection e with e1 e2 e3
  subst e1
  subst e3
  refine ⟨A, c, by rw [List.length_take, Nat.min_eq_left hm], by rw [List.length_take]; omega, h3, fun hn => ?_⟩
  obtain ⟨b, off, h5, h6⟩ := hA (by intro e; subst e; simp at hn)
  refine ⟨b, off, h5, fun i x hx => h6 i x ?_⟩
  rw [List.getElem?_take] at hx
  split at hx
  · exact hx
  · cases hx
/-- A code that a call makes. -/
structure OwnI (base : Nat) (W : World) (v : Value) (xs : List (Int × Sg)) : Prop where
  row : W.ownsRow base 43 6 v xs.length (insL xs)
  inn : ∀ y ∈ xs, IB W y.2.lv y.2.l ∧ y.2.l.length ≤ 3
theorem OwnI.nil_ (base : Nat) (W : World) : OwnI base W (.slice none 0 0) [] := ⟨World.ownsRow_nil _ _ _ _, fun y h => by cases h⟩
theorem insL_app (xs ys : List (Int × Sg)) : insL (xs ++ ys) = insL xs ++ insL ys := by simp [insL]
theorem insn_infoB : (Try.prog.info? 43).map (fun i => (i.zero, i.size, i.bytes)) = some (some (.agg #[.int .i64 0, .int .i64 0, .int .i64 0, .int .i64 0, .int .i64 0, .slice none 0 0]), 6, 64) := by kernel_rfl
/-- A code in memory, in blocks of instructions and of numbers. -/
def CodeB (W : World) (v : Value) (cs : List Bi) : Prop := ∃ (A : Option Addr) (c : Nat), v = .slice A cs.length c ∧ cs.length ≤ 9223372036854775807 ∧
  (cs ≠ [] → ∃ b off, A = some ⟨b, off, none⟩ ∧ (∃ cs', Blk W b 43 cs') ∧ ∀ (i : Nat) (x : Bi), cs[i]? = some x → ∃ s : Sg, s.l = x.2 ∧ IB W s.lv s.l ∧ ∀ (j : Nat) (u : Value), (s.cells x.1)[j]? = some u → W.cell? ⟨b, off + i * 6 + j, none⟩ = some u)
theorem CodeB.a {W : World} {v : Value} {cs : List Bi} (h : CodeB W v cs) : CodeA W v cs := by
  obtain ⟨A, c, h1, h2, h3⟩ := h
  refine ⟨A, c, h1, h2, fun hn => ?_⟩
  obtain ⟨b, off, h4, ⟨_, h5⟩, h6⟩ := h3 hn
  refine ⟨b, off, h4, h5.lt, fun i x hx => ?_⟩
  obtain ⟨s, e, h7, h8⟩ := h6 i x hx
  exact ⟨s, e, h7.ints, h8⟩
theorem CodeB.row {W W' : World} {v : Value} {cs : List Bi} {row : Option Nat} (h : CodeB W v cs) (hg : W.grownBy W' row) (hr : ∀ g, row = some g → ∃ t cs, Blk W g t cs ∧ t ≠ 3 ∧ t ≠ 43) : CodeB W' v cs := by
  obtain ⟨A, c, h1, h2, h3⟩ := h
  refine ⟨A, c, h1, h2, fun hn => ?_⟩
  obtain ⟨b, off, h4, ⟨cs', h5⟩, h6⟩ := h3 hn
  have hne : some b ≠ row := fun e => by
    obtain ⟨t, cs, hb, _, ht⟩ := hr b e.symm
    exact Blk.ne_ hb h5 ht rfl
  refine ⟨b, off, h4, ⟨cs', h5.grown hg hne⟩, fun i x hx => ?_⟩
  obtain ⟨s, e, h7, h8⟩ := h6 i x hx
  exact ⟨s, e, h7.row hg (fun g e => by obtain ⟨t, cs, hb, ht, _⟩ := hr g e; exact ⟨t, cs, hb, ht⟩), fun j u hu => cell_row (h8 j u hu) hg hne⟩
theorem CodeB.kept {W W' : World} {v : Value} {cs : List Bi} (h : CodeB W v cs) (hg : W.grownBy W' none) : CodeB W' v cs := h.row hg (fun _ e => by cases e)
theorem OwnI.codeB {base : Nat} {W : World} {v : Value} {xs : List (Int × Sg)} (h : OwnI base W v xs) : CodeB W v (biL xs) := by
  rcases h.row.2 with ⟨rfl, h0⟩ | ⟨g, cap, cur, rfl, _, hh, hn, hm, _, _⟩
  · obtain rfl : xs = [] := List.length_eq_zero_iff.1 h0
    exact ⟨none, 0, rfl, by simp [biL], fun hn => absurd rfl hn⟩
  · refine ⟨some ⟨g, 0, none⟩, cap, by simp [biL], by simp [biL]; unfold maxLen at hm; omega, fun _ => ⟨g, 0, rfl, ⟨_, hh⟩, fun i x hx => ?_⟩⟩
    unfold biL at hx
    rw [List.getElem?_map] at hx
    obtain ⟨y, hy, rfl⟩ := Option.map_eq_some_iff.1 hx
    refine ⟨y.2, rfl, (h.inn y (List.mem_of_getElem? hy)).1, fun j u hu => ?_⟩
    have := World.ownsRow.cells h.row (g := g) rfl (i * 6 + j) u (insL_at xs i j y u hy hu)
    rw [addr_B, Nat.zero_add] at this
    rw [Nat.zero_add]
    exact this
theorem OwnI.code {base : Nat} {W : World} {v : Value} {xs : List (Int × Sg)} (h : OwnI base W v xs) : CodeA W v (biL xs) := h.codeB.a
/-- One instruction more. -/
theorem wpList_append_insn {ops : Array Oper} {rest : List Oper} {o : Oper} {a : Act} {W : World} {Q : Exit → Act → World → Prop} (hgd : o.guard = none) (s x : Operand)
    (ho : o.op = .call { callee := .builtin .append, args := #[s, x], argTypes := #[22, 22] })
    {base : Nat} {v : Value} {xs : List (Int × Sg)} {op : Int} {t : Sg} {g : Nat} (hs : a.eval s = v) (hx : a.eval x = .slice (some ⟨g, 0, none⟩) 1 1)
    (hot : OwnI base W v xs) (hb : Blk W g 43 (t.cells op)) (hl : IB W t.lv t.l ∧ t.l.length ≤ 3) (h1 : t.lv.oneCell' = true) (hn : xs.length ≤ 1000) (hbase : base ≤ W.heap.size)
    (h : ∀ v' W', OwnI base W' v' (xs ++ [(op, t)]) → W.grownBy W' v.ownBlock → wpList Try.prog ops Q rest (a.put o.dst v') W') : wpList Try.prog ops Q (o :: rest) a W := by
  obtain ⟨i0, hi, hz0, hz1, hz2⟩ := info_parts insn_infoB
  refine wpList_plain hgd fun K hK => ?_
  obtain ⟨v', W', hr, h2, h3, _⟩ := run_append_own (P := Try.prog) W base 22 o.type 43 i0 _ 6 64 Try.underlying22 hi hz0 hz1 hz2 rfl (by decide) v xs.length (insL xs) hot.row ⟨g, 0, none⟩ 1 1 (t.cells op).toList rfl (fun j u hu => by
    rw [addr_B, Nat.zero_add, hb.cell j, ← hu]; simp) (fun u hu => by
    simp only [Sg.cells, List.mem_cons, List.not_mem_nil, or_false] at hu
    rcases hu with rfl | rfl | rfl | rfl | rfl | rfl <;> first | rfl | exact h1) (by unfold maxLen; omega) (by omega) hbase
  unfold Oper.wp execOp
  simp only [ho, resolve, invoke, builtin, Sem.run_bind, Sem.run_pure, Result.andThen_ok, List.map_toArray, List.map_cons, List.map_nil, hs, hx, hr]
  have hrr : ∀ g, v.ownBlock = some g → ∃ t cs, Blk W g t cs ∧ t ≠ 3 := fun g e => by
    obtain ⟨_, cs', hb'⟩ := own_rowB hot.row g e
    exact ⟨_, cs', hb', by decide⟩
  refine hK _ _ (h v' W' ⟨?_, fun y hy => ?_⟩ h3)
  · rw [List.length_append, insL_app]
    have e : insL [(op, t)] = (t.cells op).toList := by simp [insL]
    rw [e]
    exact h2
  · rcases List.mem_append.1 hy with h4 | h4
    · exact ⟨(hot.inn y h4).1.row h3 hrr, (hot.inn y h4).2⟩
    · obtain rfl := List.mem_singleton.1 h4
      exact ⟨hl.1.row h3 hrr, hl.2⟩
theorem OwnI.none_ {base : Nat} {W W' : World} {v : Value} {xs : List (Int × Sg)} (h : OwnI base W v xs) (hg : W.grownBy W' none) : OwnI base W' v xs :=
  ⟨h.row.kept hg (by cases hv : v.ownBlock <;> simp), fun y hy => ⟨(h.inn y hy).1.kept hg, (h.inn y hy).2⟩⟩
/-- What stands as an instruction's targets are laid. -/
structure CB (w0 : World) (Bx : Nat) (opv : Int) (v : Value) (ls : List Int) (X : World) : Prop where
  gr : w0.grownBy X none
  hb : w0.heap.size ≤ Bx
  bx : Blk X Bx 43 #[.int .i64 opv, .int .i64 0, .int .i64 0, .int .i64 0, .int .i64 0, v]
  ow : BOwn (Bx + 1) X v ls
section
variable {w0 X Y : World} {Bx : Nat} {opv : Int} {v v' : Value} {ls ls' : List Int}
theorem CB.kept (h : CB w0 Bx opv v ls X) (hg : X.grownBy Y none) : CB w0 Bx opv v ls Y := ⟨only_trans h.gr hg, h.hb, h.bx.kept hg, h.ow.none_ hg⟩
theorem CB.at_ (h : CB w0 Bx opv v ls X) (hg : X.grownBy Y v.ownBlock) : Blk Y Bx 43 #[.int .i64 opv, .int .i64 0, .int .i64 0, .int .i64 0, .int .i64 0, v] := h.bx.grown hg fun e => by
  have := (World.ownsRow.lt h.ow _ e.symm).1
  omega
theorem CB.put (h : CB w0 Bx opv v ls X) (hg : X.grownBy Y v.ownBlock) (ho : BOwn (Bx + 1) Y v' ls') : CB w0 Bx opv v' ls' (Y.setCell ⟨Bx, 5, none⟩ v') :=
  have hb0 := h.hb
  ⟨only_setNew (grown_ownB h.gr (fun g e => by have := (World.ownsRow.lt h.ow g e).1; omega) hg) (by show w0.heap.size ≤ Bx; omega) _, h.hb, (h.at_ hg).set_ 5 v', ho.kept (only_setCell (p := ⟨Bx, 5, none⟩) (only_refl _ _) rfl _) (.inr fun e => by have := (World.ownsRow.lt ho Bx e).1; omega)⟩
end
/-- The last one is turned into one that ends. -/
theorem own_last {base : Nat} {W : World} {g c m0 : Nat} {xs : List (Int × Sg)} (h : OwnI base W (.slice (some ⟨g, 0, none⟩) xs.length c) xs) (hx : xs.length = m0 + 1) :
    CodeB ((((((W.setCell ⟨g, m0 * 6, none⟩ (.int .i64 24)).setCell ⟨g, m0 * 6 + 1, none⟩ (.int .i64 0)).setCell ⟨g, m0 * 6 + 2, none⟩ (.int .i64 0)).setCell ⟨g, m0 * 6 + 3, none⟩ (.int .i64 0)).setCell ⟨g, m0 * 6 + 4, none⟩ (.int .i64 0)).setCell ⟨g, m0 * 6 + 5, none⟩ (.slice none 0 0)) (.slice (some ⟨g, 0, none⟩) xs.length c) (biL (xs.take m0) ++ [(24, [])]) := by
  have hg : W.grownBy ((((((W.setCell ⟨g, m0 * 6, none⟩ (.int .i64 24)).setCell ⟨g, m0 * 6 + 1, none⟩ (.int .i64 0)).setCell ⟨g, m0 * 6 + 2, none⟩ (.int .i64 0)).setCell ⟨g, m0 * 6 + 3, none⟩ (.int .i64 0)).setCell ⟨g, m0 * 6 + 4, none⟩ (.int .i64 0)).setCell ⟨g, m0 * 6 + 5, none⟩ (.slice none 0 0)) (some g) :=
    only_setCell (p := ⟨g, m0 * 6 + 5, none⟩) (only_setCell (p := ⟨g, m0 * 6 + 4, none⟩) (only_setCell (p := ⟨g, m0 * 6 + 3, none⟩) (only_setCell (p := ⟨g, m0 * 6 + 2, none⟩) (only_setCell (p := ⟨g, m0 * 6 + 1, none⟩) (only_setCell (p := ⟨g, m0 * 6, none⟩) (only_refl _ _) rfl _) rfl _) rfl _) rfl _) rfl _) rfl _
  obtain ⟨cap, cur, hh, hcap, hsz⟩ : ∃ cap cur, Blk W g 43 cur ∧ xs.length ≤ cap ∧ cur.size = cap * 6 := by
    rcases h.row.2 with ⟨e, _⟩ | ⟨g', cap, cur, e, _, h1, h2, _, h3, _⟩
    · cases e
    · injection e with e1 e2 e3
      injection e1 with e1
      injection e1 with e1
      subst e1
      exact ⟨cap, cur, h1, h2, h3⟩
  have hb := (((((hh.set_ (m0 * 6) (.int .i64 24)).set_ (m0 * 6 + 1) (.int .i64 0)).set_ (m0 * 6 + 2) (.int .i64 0)).set_ (m0 * 6 + 3) (.int .i64 0)).set_ (m0 * 6 + 4) (.int .i64 0)).set_ (m0 * 6 + 5) (.slice none 0 0)
  have hsz2 : m0 * 6 + 5 < cur.size := by omega
  have hlen : (biL (xs.take m0) ++ [((24 : Int), ([] : List Int))]).length = xs.length := by
    simp [biL, hx]
  refine ⟨some ⟨g, 0, none⟩, c, by rw [hlen], by rw [hlen]; rcases h.row.2 with ⟨e, _⟩ | ⟨_, cap, _, _, _, _, h2, h3, _⟩; cases e; unfold maxLen at h3; omega, fun _ => ⟨g, 0, rfl, ⟨_, hb⟩, fun i x hi => ?_⟩⟩
  rcases Nat.lt_or_ge i m0 with him | him
  · rw [List.getElem?_append_left (by simp [biL]; omega)] at hi
    unfold biL at hi
    rw [List.getElem?_map, List.getElem?_take, if_pos him] at hi
    obtain ⟨y, hy, rfl⟩ := Option.map_eq_some_iff.1 hi
    have hyi := h.inn y (List.mem_of_getElem? hy)
    refine ⟨y.2, rfl, (hyi.1.row hg (fun g' e => by injection e with e; subst e; exact ⟨_, _, hh, by decide⟩)), fun j u hu => ?_⟩
    have hj : j < 6 := by
      have := (Array.getElem?_eq_some_iff.1 hu).1
      simpa [Sg.cells] using this
    have := World.ownsRow.cells h.row (g := g) rfl (i * 6 + j) u (insL_at xs i j y u hy hu)
    rw [addr_B, Nat.zero_add, hh.cell] at this
    rw [Nat.zero_add, hb.cell]
    rw [Array.getElem?_setIfInBounds_ne (by omega), Array.getElem?_setIfInBounds_ne (by omega), Array.getElem?_setIfInBounds_ne (by omega), Array.getElem?_setIfInBounds_ne (by omega), Array.getElem?_setIfInBounds_ne (by omega), Array.getElem?_setIfInBounds_ne (by omega)]
    exact this
  · have hi2 : i = m0 := by
      have := (List.getElem?_eq_some_iff.1 hi).1
      rw [hlen, hx] at this
      omega
    subst hi2
    rw [List.getElem?_append_right (by simp [biL]; omega)] at hi
    have h0 : i - (biL (xs.take i)).length = 0 := by simp [biL]; omega
    rw [h0] at hi
    simp at hi
    subst hi
    refine ⟨sg0, rfl, ⟨none, 0, rfl, fun h => absurd rfl h⟩, fun j u hu => ?_⟩
    have hj : j < 6 := by
      have := (Array.getElem?_eq_some_iff.1 hu).1
      simpa [Sg.cells] using this
    rw [Nat.zero_add, hb.cell]
    have hj6 : j = 0 ∨ j = 1 ∨ j = 2 ∨ j = 3 ∨ j = 4 ∨ j = 5 := by omega
    rcases hj6 with rfl | rfl | rfl | rfl | rfl | rfl
    all_goals
      simp only [Array.getElem?_setIfInBounds, Array.size_setIfInBounds, Sg.cells] at hu ⊢
      simp at hu
      subst hu
      simp
      try omega
/-- What coded answers, and in which blocks. -/
def CodedB (w : World) (e : Ending) (w' : World) : Prop := ∃ v cs, e = .returned v ∧ CodeB w' v cs ∧ cs.length ≤ 128 ∧ (∀ x ∈ cs, x.2.length ≤ 3) ∧ w.grownBy w' none
/-- What coded answers. -/
def CodedR (w : World) (e : Ending) (w' : World) : Prop := ∃ v cs, e = .returned v ∧ CodeA w' v cs ∧ cs.length ≤ 128 ∧ (∀ x ∈ cs, x.2.length ≤ 3) ∧ w.grownBy w' none
set_option maxRecDepth 100000 in
set_option maxHeartbeats 4000000 in
theorem codedB_any (rs : List Rw) (odd : Nat) (v : Value) (w : World) (hR : RowsA w v rs) (ho : odd < 256) : Calls Try.prog 7 #[v, .int .u8 (odd : Int)] w (CodedB w) := by
  obtain ⟨A, cp, rfl, hc1, hc2, _⟩ := id hR
  have HR := Lib.hid hR
  clear hR
  have hc1I : (rs.length : Int) ≤ (cp : Int) := by omega
  have hc2I : (cp : Int) ≤ 9223372036854775807 := by omega
  obtain ⟨n, hn⟩ : ∃ n, min rs.length 128 = n := ⟨_, rfl⟩
  have hif : (if (128 : Int) < (rs.length : Int) then (128 : Int) else (rs.length : Int)) = (n : Int) := by split <;> omega
  have hn128 : n ≤ 128 := by omega
  have hnI : (n : Int) ≤ 128 := by omega
  have hrs := HR.out.take_ n (by omega)
  have hrl : (rs.take n).length = n := by rw [List.length_take]; omega
  obtain ⟨qs, hqs⟩ : ∃ qs, rs.take n = qs := ⟨_, rfl⟩
  rw [hqs] at hrs hrl
  have HQ := Lib.hid hrs
  clear HR hrs hqs hn
  have hod : (odd : Int) < 256 := by omega
  have hod0 : (0 : Int) ≤ (odd : Int) := by omega
  obtain ⟨ob, hob⟩ : ∃ ob, ((odd : Int) == 255) = ob := ⟨_, rfl⟩
  have hob2 : ((odd : Int) != 255) = !ob := by rw [← hob]; rfl
  go_enter Try.func7, Try.ntmps7
  go_upto_region 3 with fail
  clear hif
  go_wp2_with fail
  go_loopw [5, 6] (fun out z wr => ∃ (k : Nat) (xs : List (Int × Sg)), k ≤ n ∧ xs.length = k ∧ z = .int .i64 (k : Int) ∧ w.grownBy wr none ∧ OwnI w.heap.size wr out xs) (fun _ z _ => n - (intOf z).toNat)
  case atStart => exact ⟨0, [], Nat.zero_le _, rfl, rfl, only_refl _ _, OwnI.nil_ _ _⟩
  case round =>
    obtain ⟨k, xs, hk, hxs, rfl, hg, hoi⟩ := hrel
    by_cases hlt : k < n
    · have hk0 : (0 : Int) ≤ (k : Int) := by omega
      have hk1 : (k : Int) < (n : Int) := by omega
      obtain ⟨r, hr⟩ : ∃ r, qs[k]? = some r := ⟨_, List.getElem?_eq_getElem (by rw [hrl]; exact hlt)⟩
      obtain ⟨b, off, rfl, hok, c0, c1, c2, c3, c4⟩ := (HQ.out.kept hg).at_ hr
      obtain ⟨rop, rmany, l0, l1, l2⟩ := r
      dsimp only at c0 c1 c2 c3 c4
      have h0 : (rop : Int) < 256 := by have := hok.h0; dsimp only at this; omega
      have h1 : (rmany : Int) < 256 := by have := hok.h1; dsimp only at this; omega
      have h00 : (0 : Int) ≤ (rop : Int) := by omega
      have h10 : (0 : Int) ≤ (rmany : Int) := by omega
      have HG := Lib.hid hg
      have HOI := Lib.hid hoi
      have HOK := Lib.hid hok
      clear hg hoi hok hr
      by_cases h200 : (rop : Int) < 200
      · obtain ⟨opv, hopv⟩ : ∃ opv : Int, (rop : Int) % 25 = opv := ⟨_, rfl⟩
        have HCB : Hid (CB wr wr.heap.size opv (.slice none 0 0) [] (wr.alloc (.cells #[.int .i64 opv, .int .i64 0, .int .i64 0, .int .i64 0, .int .i64 0, .slice none 0 0] 43))) := ⟨only_alloc (only_refl _ _) _, Nat.le_refl _, Blk.new _ _ _, BOwn.nil_ _ _⟩
        have x0 : (wr.alloc (.cells #[.int .i64 opv, .int .i64 0, .int .i64 0, .int .i64 0, .int .i64 0, .slice none 0 0] 43)).cell? ⟨wr.heap.size, 0, none⟩ = some (.int .i64 opv) := HCB.out.bx.cell 0
        have d0 : (wr.alloc (.cells #[.int .i64 opv, .int .i64 0, .int .i64 0, .int .i64 0, .int .i64 0, .slice none 0 0] 43)).cell? ⟨b, off + k * 5, none⟩ = some (.int .u8 (rop : Int)) := cell_row c0 HCB.out.gr (fun e => by cases e)
        have d1 : (wr.alloc (.cells #[.int .i64 opv, .int .i64 0, .int .i64 0, .int .i64 0, .int .i64 0, .slice none 0 0] 43)).cell? ⟨b, off + k * 5 + 1, none⟩ = some (.int .u8 (rmany : Int)) := cell_row c1 HCB.out.gr (fun e => by cases e)
        go_upto_region 9 with fail
        clear d0
        generalize wr.heap.size = Bx at *
        generalize wr.alloc (.cells #[.int .i64 opv, .int .i64 0, .int .i64 0, .int .i64 0, .int .i64 0, .slice none 0 0] 43) = W0 at *
        cases h19 : (opv == 19) with
        | true =>
          cases ob with
          | true =>
            obtain ⟨m, hm, hm3⟩ : ∃ m : Nat, (rmany : Int) % 4 = (m : Int) ∧ m ≤ 3 := ⟨rmany % 4, by omega, by omega⟩
            have hmI : (m : Int) ≤ 3 := by omega
            have hm0 : (0 : Int) ≤ (m : Int) := by omega
            go_wp2_with fail
            go_loopw [9] (fun z wr2 => ∃ (j : Nat) (ls : List Int) (A : Option Addr) (c : Nat), j ≤ m ∧ ls.length = j ∧ z = .int .i64 (j : Int) ∧ CB wr Bx opv (.slice A j c) ls wr2) (fun z _ => m - (intOf z).toNat)
            case atStart => exact ⟨0, [], none, 0, Nat.zero_le _, rfl, rfl, HCB.out⟩
            case round =>
              obtain ⟨j, ls, A7, c7, hj, hls, rfl, hcb⟩ := hrel
              have HCBj := Lib.hid hcb
              have hj0 : (0 : Int) ≤ (j : Int) := by omega
              have x5 : wr.cell? ⟨Bx, 5, none⟩ = some (.slice A7 j c7) := HCBj.out.bx.cell 5
              have hbx9 : Bx < wr.heap.size := cell_ltB x5
              by_cases hjlt : j < m
              · obtain ⟨lz, dz, hlz⟩ : ∃ lz : Nat, wr.cell? ⟨b, off + k * 5 + 2 + j, none⟩ = some (.int .u8 (lz : Int)) ∧ lz < 256 := by
                  have hj3 : j = 0 ∨ j = 1 ∨ j = 2 := by omega
                  rcases hj3 with rfl | rfl | rfl
                  · exact ⟨l0, cell_row c2 hcb.gr (fun e => by cases e), HOK.out.h2⟩
                  · exact ⟨l1, cell_row c3 hcb.gr (fun e => by cases e), HOK.out.h3⟩
                  · exact ⟨l2, cell_row c4 hcb.gr (fun e => by cases e), HOK.out.h4⟩
                have hmod : (j : Int) % 3 = (j : Int) := by omega
                have hlzI : (lz : Int) < 256 := by omega
                have hlz0 : (0 : Int) ≤ (lz : Int) := by omega
                have hjm : (j : Int) < (m : Int) := by omega
                have hj3 : (j : Int) < 3 := by omega
                have HL9 : Hid (∀ z : Int, (ls ++ [z]).length = j + 1) := Lib.hid fun z => by rw [List.length_append, hls]; rfl
                clear hcb
                go_wp2_with (at_builtin; (refine wpList_append_z (base := Bx + 1) rfl _ _ rfl rfl rfl (HCBj.out.ow.none_ (only_alloc (only_refl _ _) _)) (Blk.new _ _ _) (by omega) (by simp; omega) ?_); intro v5 W5 ho5 hg5; obtain ⟨A8, c8, rfl, _⟩ := id ho5.reads; rw [HL9.out] at ho5; have HC5 := Lib.hid ((HCBj.out.kept (only_alloc (only_refl _ _) _)).put hg5 ho5); have b5 := (HCBj.out.kept (only_alloc (only_refl _ _) _)).at_ hg5; have k5 := b5.cell 5; have f5 := b5.frozen 5; clear ho5 hg5 b5)
                go_roundw
                case rel => exact ⟨j + 1, by omega, _, HL9.out _, by omega, _, _, HC5.out⟩
                case measure => simp [intOf]; omega
              · obtain rfl : j = m := by omega
                have hge : (j : Int) ≤ (j : Int) := by omega
                have y0 : wr.cell? ⟨Bx, 0, none⟩ = some (.int .i64 opv) := HCBj.out.bx.cell 0
                have y1 : wr.cell? ⟨Bx, 1, none⟩ = some (.int .i64 0) := HCBj.out.bx.cell 1
                have y2 : wr.cell? ⟨Bx, 2, none⟩ = some (.int .i64 0) := HCBj.out.bx.cell 2
                have y3 : wr.cell? ⟨Bx, 3, none⟩ = some (.int .i64 0) := HCBj.out.bx.cell 3
                have y4 : wr.cell? ⟨Bx, 4, none⟩ = some (.int .i64 0) := HCBj.out.bx.cell 4
                have hal : wr.grownBy (wr.alloc (.cells #[.int .i64 opv, .int .i64 0, .int .i64 0, .int .i64 0, .int .i64 0, .slice A7 j c7] 43)) none := only_alloc (only_refl _ _) _
                have HO9 := Lib.hid ((HOI.out.none_ hcb.gr).none_ hal)
                have HG9 := Lib.hid (only_trans (only_trans HG.out hcb.gr) hal)
                have HI9 := Lib.hid (hcb.ow.ib.kept hal)
                have hsz9 : w.heap.size ≤ wr.heap.size + 1 := by have := HG9.out.size; simpa using this
                clear hcb hal
                go_wp2_with (at_builtin; (refine wpList_append_insn (base := w.heap.size) (op := opv) (t := ⟨0, 0, 0, 0, .slice A7 j c7, ls⟩) rfl _ _ rfl rfl rfl HO9.out (Blk.new _ _ _) ⟨HI9.out, by rw [hls]; exact hm3⟩ rfl (by omega) (by simpa using hsz9) ?_); intro v9 W9 ho9 hg9; have HOA := Lib.hid ho9; have HGA := Lib.hid (grown_ownB HG9.out (fun g e => (World.ownsRow.lt HO9.out.row g e).1) hg9); clear ho9 hg9)
                go_roundw
                case rel => exact ⟨k + 1, _, by omega, by rw [List.length_append, hxs]; rfl, by go_num, HGA.out, HOA.out⟩
                case measure => simp [intOf]; omega
          | false =>
            obtain ⟨m, hm, hm3⟩ : ∃ m : Nat, 1 + (rmany : Int) % 3 = (m : Int) ∧ m ≤ 3 := ⟨1 + rmany % 3, by omega, by omega⟩
            have hmI : (m : Int) ≤ 3 := by omega
            have hm0 : (0 : Int) ≤ (m : Int) := by omega
            go_wp2_with fail
            go_loopw [9] (fun z wr2 => ∃ (j : Nat) (ls : List Int) (A : Option Addr) (c : Nat), j ≤ m ∧ ls.length = j ∧ z = .int .i64 (j : Int) ∧ CB wr Bx opv (.slice A j c) ls wr2) (fun z _ => m - (intOf z).toNat)
            case atStart => exact ⟨0, [], none, 0, Nat.zero_le _, rfl, rfl, HCB.out⟩
            case round =>
              obtain ⟨j, ls, A7, c7, hj, hls, rfl, hcb⟩ := hrel
              have HCBj := Lib.hid hcb
              have hj0 : (0 : Int) ≤ (j : Int) := by omega
              have x5 : wr.cell? ⟨Bx, 5, none⟩ = some (.slice A7 j c7) := HCBj.out.bx.cell 5
              have hbx9 : Bx < wr.heap.size := cell_ltB x5
              by_cases hjlt : j < m
              · obtain ⟨lz, dz, hlz⟩ : ∃ lz : Nat, wr.cell? ⟨b, off + k * 5 + 2 + j, none⟩ = some (.int .u8 (lz : Int)) ∧ lz < 256 := by
                  have hj3 : j = 0 ∨ j = 1 ∨ j = 2 := by omega
                  rcases hj3 with rfl | rfl | rfl
                  · exact ⟨l0, cell_row c2 hcb.gr (fun e => by cases e), HOK.out.h2⟩
                  · exact ⟨l1, cell_row c3 hcb.gr (fun e => by cases e), HOK.out.h3⟩
                  · exact ⟨l2, cell_row c4 hcb.gr (fun e => by cases e), HOK.out.h4⟩
                have hmod : (j : Int) % 3 = (j : Int) := by omega
                have hlzI : (lz : Int) < 256 := by omega
                have hlz0 : (0 : Int) ≤ (lz : Int) := by omega
                have hjm : (j : Int) < (m : Int) := by omega
                have hj3 : (j : Int) < 3 := by omega
                have HL9 : Hid (∀ z : Int, (ls ++ [z]).length = j + 1) := Lib.hid fun z => by rw [List.length_append, hls]; rfl
                clear hcb
                go_wp2_with (at_builtin; (refine wpList_append_z (base := Bx + 1) rfl _ _ rfl rfl rfl (HCBj.out.ow.none_ (only_alloc (only_refl _ _) _)) (Blk.new _ _ _) (by omega) (by simp; omega) ?_); intro v5 W5 ho5 hg5; obtain ⟨A8, c8, rfl, _⟩ := id ho5.reads; rw [HL9.out] at ho5; have HC5 := Lib.hid ((HCBj.out.kept (only_alloc (only_refl _ _) _)).put hg5 ho5); have b5 := (HCBj.out.kept (only_alloc (only_refl _ _) _)).at_ hg5; have k5 := b5.cell 5; have f5 := b5.frozen 5; clear ho5 hg5 b5)
                go_roundw
                case rel => exact ⟨j + 1, by omega, _, HL9.out _, by omega, _, _, HC5.out⟩
                case measure => simp [intOf]; omega
              · obtain rfl : j = m := by omega
                have hge : (j : Int) ≤ (j : Int) := by omega
                have y0 : wr.cell? ⟨Bx, 0, none⟩ = some (.int .i64 opv) := HCBj.out.bx.cell 0
                have y1 : wr.cell? ⟨Bx, 1, none⟩ = some (.int .i64 0) := HCBj.out.bx.cell 1
                have y2 : wr.cell? ⟨Bx, 2, none⟩ = some (.int .i64 0) := HCBj.out.bx.cell 2
                have y3 : wr.cell? ⟨Bx, 3, none⟩ = some (.int .i64 0) := HCBj.out.bx.cell 3
                have y4 : wr.cell? ⟨Bx, 4, none⟩ = some (.int .i64 0) := HCBj.out.bx.cell 4
                have hal : wr.grownBy (wr.alloc (.cells #[.int .i64 opv, .int .i64 0, .int .i64 0, .int .i64 0, .int .i64 0, .slice A7 j c7] 43)) none := only_alloc (only_refl _ _) _
                have HO9 := Lib.hid ((HOI.out.none_ hcb.gr).none_ hal)
                have HG9 := Lib.hid (only_trans (only_trans HG.out hcb.gr) hal)
                have HI9 := Lib.hid (hcb.ow.ib.kept hal)
                have hsz9 : w.heap.size ≤ wr.heap.size + 1 := by have := HG9.out.size; simpa using this
                clear hcb hal
                go_wp2_with (at_builtin; (refine wpList_append_insn (base := w.heap.size) (op := opv) (t := ⟨0, 0, 0, 0, .slice A7 j c7, ls⟩) rfl _ _ rfl rfl rfl HO9.out (Blk.new _ _ _) ⟨HI9.out, by rw [hls]; exact hm3⟩ rfl (by omega) (by simpa using hsz9) ?_); intro v9 W9 ho9 hg9; have HOA := Lib.hid ho9; have HGA := Lib.hid (grown_ownB HG9.out (fun g e => (World.ownsRow.lt HO9.out.row g e).1) hg9); clear ho9 hg9)
                go_roundw
                case rel => exact ⟨k + 1, _, by omega, by rw [List.length_append, hxs]; rfl, by go_num, HGA.out, HOA.out⟩
                case measure => simp [intOf]; omega
        | false =>
          cases ob with
          | true =>
            obtain ⟨m, hm, hm3⟩ : ∃ m : Nat, (rmany : Int) % 4 = (m : Int) ∧ m ≤ 3 := ⟨rmany % 4, by omega, by omega⟩
            have hmI : (m : Int) ≤ 3 := by omega
            have hm0 : (0 : Int) ≤ (m : Int) := by omega
            go_wp2_with fail
            go_loopw [9] (fun z wr2 => ∃ (j : Nat) (ls : List Int) (A : Option Addr) (c : Nat), j ≤ m ∧ ls.length = j ∧ z = .int .i64 (j : Int) ∧ CB wr Bx opv (.slice A j c) ls wr2) (fun z _ => m - (intOf z).toNat)
            case atStart => exact ⟨0, [], none, 0, Nat.zero_le _, rfl, rfl, HCB.out⟩
            case round =>
              obtain ⟨j, ls, A7, c7, hj, hls, rfl, hcb⟩ := hrel
              have HCBj := Lib.hid hcb
              have hj0 : (0 : Int) ≤ (j : Int) := by omega
              have x5 : wr.cell? ⟨Bx, 5, none⟩ = some (.slice A7 j c7) := HCBj.out.bx.cell 5
              have hbx9 : Bx < wr.heap.size := cell_ltB x5
              by_cases hjlt : j < m
              · obtain ⟨lz, dz, hlz⟩ : ∃ lz : Nat, wr.cell? ⟨b, off + k * 5 + 2 + j, none⟩ = some (.int .u8 (lz : Int)) ∧ lz < 256 := by
                  have hj3 : j = 0 ∨ j = 1 ∨ j = 2 := by omega
                  rcases hj3 with rfl | rfl | rfl
                  · exact ⟨l0, cell_row c2 hcb.gr (fun e => by cases e), HOK.out.h2⟩
                  · exact ⟨l1, cell_row c3 hcb.gr (fun e => by cases e), HOK.out.h3⟩
                  · exact ⟨l2, cell_row c4 hcb.gr (fun e => by cases e), HOK.out.h4⟩
                have hmod : (j : Int) % 3 = (j : Int) := by omega
                have hlzI : (lz : Int) < 256 := by omega
                have hlz0 : (0 : Int) ≤ (lz : Int) := by omega
                have hjm : (j : Int) < (m : Int) := by omega
                have hj3 : (j : Int) < 3 := by omega
                have HL9 : Hid (∀ z : Int, (ls ++ [z]).length = j + 1) := Lib.hid fun z => by rw [List.length_append, hls]; rfl
                clear hcb
                go_wp2_with (at_builtin; (refine wpList_append_z (base := Bx + 1) rfl _ _ rfl rfl rfl (HCBj.out.ow.none_ (only_alloc (only_refl _ _) _)) (Blk.new _ _ _) (by omega) (by simp; omega) ?_); intro v5 W5 ho5 hg5; obtain ⟨A8, c8, rfl, _⟩ := id ho5.reads; rw [HL9.out] at ho5; have HC5 := Lib.hid ((HCBj.out.kept (only_alloc (only_refl _ _) _)).put hg5 ho5); have b5 := (HCBj.out.kept (only_alloc (only_refl _ _) _)).at_ hg5; have k5 := b5.cell 5; have f5 := b5.frozen 5; clear ho5 hg5 b5)
                go_roundw
                case rel => exact ⟨j + 1, by omega, _, HL9.out _, by omega, _, _, HC5.out⟩
                case measure => simp [intOf]; omega
              · obtain rfl : j = m := by omega
                have hge : (j : Int) ≤ (j : Int) := by omega
                have y0 : wr.cell? ⟨Bx, 0, none⟩ = some (.int .i64 opv) := HCBj.out.bx.cell 0
                have y1 : wr.cell? ⟨Bx, 1, none⟩ = some (.int .i64 0) := HCBj.out.bx.cell 1
                have y2 : wr.cell? ⟨Bx, 2, none⟩ = some (.int .i64 0) := HCBj.out.bx.cell 2
                have y3 : wr.cell? ⟨Bx, 3, none⟩ = some (.int .i64 0) := HCBj.out.bx.cell 3
                have y4 : wr.cell? ⟨Bx, 4, none⟩ = some (.int .i64 0) := HCBj.out.bx.cell 4
                have hal : wr.grownBy (wr.alloc (.cells #[.int .i64 opv, .int .i64 0, .int .i64 0, .int .i64 0, .int .i64 0, .slice A7 j c7] 43)) none := only_alloc (only_refl _ _) _
                have HO9 := Lib.hid ((HOI.out.none_ hcb.gr).none_ hal)
                have HG9 := Lib.hid (only_trans (only_trans HG.out hcb.gr) hal)
                have HI9 := Lib.hid (hcb.ow.ib.kept hal)
                have hsz9 : w.heap.size ≤ wr.heap.size + 1 := by have := HG9.out.size; simpa using this
                clear hcb hal
                go_wp2_with (at_builtin; (refine wpList_append_insn (base := w.heap.size) (op := opv) (t := ⟨0, 0, 0, 0, .slice A7 j c7, ls⟩) rfl _ _ rfl rfl rfl HO9.out (Blk.new _ _ _) ⟨HI9.out, by rw [hls]; exact hm3⟩ rfl (by omega) (by simpa using hsz9) ?_); intro v9 W9 ho9 hg9; have HOA := Lib.hid ho9; have HGA := Lib.hid (grown_ownB HG9.out (fun g e => (World.ownsRow.lt HO9.out.row g e).1) hg9); clear ho9 hg9)
                go_roundw
                case rel => exact ⟨k + 1, _, by omega, by rw [List.length_append, hxs]; rfl, by go_num, HGA.out, HOA.out⟩
                case measure => simp [intOf]; omega
          | false =>
            obtain ⟨m, hm, hm3⟩ : ∃ m : Nat, (1 : Int) = (m : Int) ∧ m ≤ 3 := ⟨1, rfl, by omega⟩
            have hmI : (m : Int) ≤ 3 := by omega
            have hm0 : (0 : Int) ≤ (m : Int) := by omega
            go_wp2_with fail
            go_loopw [9] (fun z wr2 => ∃ (j : Nat) (ls : List Int) (A : Option Addr) (c : Nat), j ≤ m ∧ ls.length = j ∧ z = .int .i64 (j : Int) ∧ CB wr Bx opv (.slice A j c) ls wr2) (fun z _ => m - (intOf z).toNat)
            case atStart => exact ⟨0, [], none, 0, Nat.zero_le _, rfl, rfl, HCB.out⟩
            case round =>
              obtain ⟨j, ls, A7, c7, hj, hls, rfl, hcb⟩ := hrel
              have HCBj := Lib.hid hcb
              have hj0 : (0 : Int) ≤ (j : Int) := by omega
              have x5 : wr.cell? ⟨Bx, 5, none⟩ = some (.slice A7 j c7) := HCBj.out.bx.cell 5
              have hbx9 : Bx < wr.heap.size := cell_ltB x5
              by_cases hjlt : j < m
              · obtain ⟨lz, dz, hlz⟩ : ∃ lz : Nat, wr.cell? ⟨b, off + k * 5 + 2 + j, none⟩ = some (.int .u8 (lz : Int)) ∧ lz < 256 := by
                  have hj3 : j = 0 ∨ j = 1 ∨ j = 2 := by omega
                  rcases hj3 with rfl | rfl | rfl
                  · exact ⟨l0, cell_row c2 hcb.gr (fun e => by cases e), HOK.out.h2⟩
                  · exact ⟨l1, cell_row c3 hcb.gr (fun e => by cases e), HOK.out.h3⟩
                  · exact ⟨l2, cell_row c4 hcb.gr (fun e => by cases e), HOK.out.h4⟩
                have hmod : (j : Int) % 3 = (j : Int) := by omega
                have hlzI : (lz : Int) < 256 := by omega
                have hlz0 : (0 : Int) ≤ (lz : Int) := by omega
                have hjm : (j : Int) < (m : Int) := by omega
                have hj3 : (j : Int) < 3 := by omega
                have HL9 : Hid (∀ z : Int, (ls ++ [z]).length = j + 1) := Lib.hid fun z => by rw [List.length_append, hls]; rfl
                clear hcb
                go_wp2_with (at_builtin; (refine wpList_append_z (base := Bx + 1) rfl _ _ rfl rfl rfl (HCBj.out.ow.none_ (only_alloc (only_refl _ _) _)) (Blk.new _ _ _) (by omega) (by simp; omega) ?_); intro v5 W5 ho5 hg5; obtain ⟨A8, c8, rfl, _⟩ := id ho5.reads; rw [HL9.out] at ho5; have HC5 := Lib.hid ((HCBj.out.kept (only_alloc (only_refl _ _) _)).put hg5 ho5); have b5 := (HCBj.out.kept (only_alloc (only_refl _ _) _)).at_ hg5; have k5 := b5.cell 5; have f5 := b5.frozen 5; clear ho5 hg5 b5)
                go_roundw
                case rel => exact ⟨j + 1, by omega, _, HL9.out _, by omega, _, _, HC5.out⟩
                case measure => simp [intOf]; omega
              · obtain rfl : j = m := by omega
                have hge : (j : Int) ≤ (j : Int) := by omega
                have y0 : wr.cell? ⟨Bx, 0, none⟩ = some (.int .i64 opv) := HCBj.out.bx.cell 0
                have y1 : wr.cell? ⟨Bx, 1, none⟩ = some (.int .i64 0) := HCBj.out.bx.cell 1
                have y2 : wr.cell? ⟨Bx, 2, none⟩ = some (.int .i64 0) := HCBj.out.bx.cell 2
                have y3 : wr.cell? ⟨Bx, 3, none⟩ = some (.int .i64 0) := HCBj.out.bx.cell 3
                have y4 : wr.cell? ⟨Bx, 4, none⟩ = some (.int .i64 0) := HCBj.out.bx.cell 4
                have hal : wr.grownBy (wr.alloc (.cells #[.int .i64 opv, .int .i64 0, .int .i64 0, .int .i64 0, .int .i64 0, .slice A7 j c7] 43)) none := only_alloc (only_refl _ _) _
                have HO9 := Lib.hid ((HOI.out.none_ hcb.gr).none_ hal)
                have HG9 := Lib.hid (only_trans (only_trans HG.out hcb.gr) hal)
                have HI9 := Lib.hid (hcb.ow.ib.kept hal)
                have hsz9 : w.heap.size ≤ wr.heap.size + 1 := by have := HG9.out.size; simpa using this
                clear hcb hal
                go_wp2_with (at_builtin; (refine wpList_append_insn (base := w.heap.size) (op := opv) (t := ⟨0, 0, 0, 0, .slice A7 j c7, ls⟩) rfl _ _ rfl rfl rfl HO9.out (Blk.new _ _ _) ⟨HI9.out, by rw [hls]; exact hm3⟩ rfl (by omega) (by simpa using hsz9) ?_); intro v9 W9 ho9 hg9; have HOA := Lib.hid ho9; have HGA := Lib.hid (grown_ownB HG9.out (fun g e => (World.ownsRow.lt HO9.out.row g e).1) hg9); clear ho9 hg9)
                go_roundw
                case rel => exact ⟨k + 1, _, by omega, by rw [List.length_append, hxs]; rfl, by go_num, HGA.out, HOA.out⟩
                case measure => simp [intOf]; omega
      · obtain ⟨op0, hop0⟩ : ∃ op0 : Int, (rop : Int) % 25 = op0 := ⟨_, rfl⟩
        obtain ⟨q, hq, hq3⟩ : ∃ q : Nat, (rop : Int) % 3 = (q : Int) ∧ q < 3 := ⟨rop % 3, by omega, by omega⟩
        obtain ⟨opv, hopv⟩ : ∃ opv : Int, (#[.int .i64 11, .int .i64 12, .int .i64 19] : Array Value)[q]? = some (.int .i64 opv) := by
          have h3 : q = 0 ∨ q = 1 ∨ q = 2 := by omega
          rcases h3 with rfl | rfl | rfl
          · exact ⟨11, rfl⟩
          · exact ⟨12, rfl⟩
          · exact ⟨19, rfl⟩
        have hqI : (q : Int) < 3 := by omega
        have hq0 : (0 : Int) ≤ (q : Int) := by omega
        have h200' : (200 : Int) ≤ (rop : Int) := by omega
        have hg1 : wr.grownBy (wr.alloc (.cells #[.int .i64 op0, .int .i64 0, .int .i64 0, .int .i64 0, .int .i64 0, .slice none 0 0] 43)) none := only_alloc (only_refl _ _) _
        have d0 : (wr.alloc (.cells #[.int .i64 op0, .int .i64 0, .int .i64 0, .int .i64 0, .int .i64 0, .slice none 0 0] 43)).cell? ⟨b, off + k * 5, none⟩ = some (.int .u8 (rop : Int)) := cell_row c0 hg1 (fun e => by cases e)
        have hg2 : wr.grownBy ((wr.alloc (.cells #[.int .i64 op0, .int .i64 0, .int .i64 0, .int .i64 0, .int .i64 0, .slice none 0 0] 43)).alloc (.cells #[.int .i64 11, .int .i64 12, .int .i64 19] 3)) none := only_alloc hg1 _
        have d01 : ((wr.alloc (.cells #[.int .i64 op0, .int .i64 0, .int .i64 0, .int .i64 0, .int .i64 0, .slice none 0 0] 43)).alloc (.cells #[.int .i64 11, .int .i64 12, .int .i64 19] 3)).cell? ⟨b, off + k * 5, none⟩ = some (.int .u8 (rop : Int)) := cell_row c0 hg2 (fun e => by cases e)
        have hbn : Blk ((wr.alloc (.cells #[.int .i64 op0, .int .i64 0, .int .i64 0, .int .i64 0, .int .i64 0, .slice none 0 0] 43)).alloc (.cells #[.int .i64 11, .int .i64 12, .int .i64 19] 3)) (wr.heap.size + 1) 3 #[.int .i64 11, .int .i64 12, .int .i64 19] := blk_atB (by simp) _ _
        have n0 : ((wr.alloc (.cells #[.int .i64 op0, .int .i64 0, .int .i64 0, .int .i64 0, .int .i64 0, .slice none 0 0] 43)).alloc (.cells #[.int .i64 11, .int .i64 12, .int .i64 19] 3)).cell? ⟨wr.heap.size + 1, q, none⟩ = some (.int .i64 opv) := (hbn.cell q).trans hopv
        have y0 : ((wr.alloc (.cells #[.int .i64 op0, .int .i64 0, .int .i64 0, .int .i64 0, .int .i64 0, .slice none 0 0] 43)).alloc (.cells #[.int .i64 11, .int .i64 12, .int .i64 19] 3)).cell? ⟨wr.heap.size, 0, none⟩ = some (.int .i64 op0) := ((Blk.new _ _ _).alloc _ : Blk ((wr.alloc (.cells #[.int .i64 op0, .int .i64 0, .int .i64 0, .int .i64 0, .int .i64 0, .slice none 0 0] 43)).alloc (.cells #[.int .i64 11, .int .i64 12, .int .i64 19] 3)) wr.heap.size 43 #[.int .i64 op0, .int .i64 0, .int .i64 0, .int .i64 0, .int .i64 0, .slice none 0 0]).cell 0
        have HCB : Hid (CB wr wr.heap.size opv (.slice none 0 0) [] ((wr.alloc (.cells #[.int .i64 opv, .int .i64 0, .int .i64 0, .int .i64 0, .int .i64 0, .slice none 0 0] 43)).alloc (.cells #[.int .i64 11, .int .i64 12, .int .i64 19] 3))) := ⟨only_alloc (only_alloc (only_refl _ _) _) _, Nat.le_refl _, (Blk.new _ _ _).alloc _, BOwn.nil_ _ _⟩
        have x0 : ((wr.alloc (.cells #[.int .i64 opv, .int .i64 0, .int .i64 0, .int .i64 0, .int .i64 0, .slice none 0 0] 43)).alloc (.cells #[.int .i64 11, .int .i64 12, .int .i64 19] 3)).cell? ⟨wr.heap.size, 0, none⟩ = some (.int .i64 opv) := HCB.out.bx.cell 0
        have d1 : ((wr.alloc (.cells #[.int .i64 opv, .int .i64 0, .int .i64 0, .int .i64 0, .int .i64 0, .slice none 0 0] 43)).alloc (.cells #[.int .i64 11, .int .i64 12, .int .i64 19] 3)).cell? ⟨b, off + k * 5 + 1, none⟩ = some (.int .u8 (rmany : Int)) := cell_row c1 HCB.out.gr (fun e => by cases e)
        clear hg1 hg2 hbn hopv h200
        go_upto_region 9 with fail
        clear d0 d01 n0 y0
        generalize wr.heap.size = Bx at *
        generalize ((wr.alloc (.cells #[.int .i64 opv, .int .i64 0, .int .i64 0, .int .i64 0, .int .i64 0, .slice none 0 0] 43)).alloc (.cells #[.int .i64 11, .int .i64 12, .int .i64 19] 3)) = W0 at *
        cases h19 : (opv == 19) with
        | true =>
          cases ob with
          | true =>
            obtain ⟨m, hm, hm3⟩ : ∃ m : Nat, (rmany : Int) % 4 = (m : Int) ∧ m ≤ 3 := ⟨rmany % 4, by omega, by omega⟩
            have hmI : (m : Int) ≤ 3 := by omega
            have hm0 : (0 : Int) ≤ (m : Int) := by omega
            go_wp2_with fail
            go_loopw [9] (fun z wr2 => ∃ (j : Nat) (ls : List Int) (A : Option Addr) (c : Nat), j ≤ m ∧ ls.length = j ∧ z = .int .i64 (j : Int) ∧ CB wr Bx opv (.slice A j c) ls wr2) (fun z _ => m - (intOf z).toNat)
            case atStart => exact ⟨0, [], none, 0, Nat.zero_le _, rfl, rfl, HCB.out⟩
            case round =>
              obtain ⟨j, ls, A7, c7, hj, hls, rfl, hcb⟩ := hrel
              have HCBj := Lib.hid hcb
              have hj0 : (0 : Int) ≤ (j : Int) := by omega
              have x5 : wr.cell? ⟨Bx, 5, none⟩ = some (.slice A7 j c7) := HCBj.out.bx.cell 5
              have hbx9 : Bx < wr.heap.size := cell_ltB x5
              by_cases hjlt : j < m
              · obtain ⟨lz, dz, hlz⟩ : ∃ lz : Nat, wr.cell? ⟨b, off + k * 5 + 2 + j, none⟩ = some (.int .u8 (lz : Int)) ∧ lz < 256 := by
                  have hj3 : j = 0 ∨ j = 1 ∨ j = 2 := by omega
                  rcases hj3 with rfl | rfl | rfl
                  · exact ⟨l0, cell_row c2 hcb.gr (fun e => by cases e), HOK.out.h2⟩
                  · exact ⟨l1, cell_row c3 hcb.gr (fun e => by cases e), HOK.out.h3⟩
                  · exact ⟨l2, cell_row c4 hcb.gr (fun e => by cases e), HOK.out.h4⟩
                have hmod : (j : Int) % 3 = (j : Int) := by omega
                have hlzI : (lz : Int) < 256 := by omega
                have hlz0 : (0 : Int) ≤ (lz : Int) := by omega
                have hjm : (j : Int) < (m : Int) := by omega
                have hj3 : (j : Int) < 3 := by omega
                have HL9 : Hid (∀ z : Int, (ls ++ [z]).length = j + 1) := Lib.hid fun z => by rw [List.length_append, hls]; rfl
                clear hcb
                go_wp2_with (at_builtin; (refine wpList_append_z (base := Bx + 1) rfl _ _ rfl rfl rfl (HCBj.out.ow.none_ (only_alloc (only_refl _ _) _)) (Blk.new _ _ _) (by omega) (by simp; omega) ?_); intro v5 W5 ho5 hg5; obtain ⟨A8, c8, rfl, _⟩ := id ho5.reads; rw [HL9.out] at ho5; have HC5 := Lib.hid ((HCBj.out.kept (only_alloc (only_refl _ _) _)).put hg5 ho5); have b5 := (HCBj.out.kept (only_alloc (only_refl _ _) _)).at_ hg5; have k5 := b5.cell 5; have f5 := b5.frozen 5; clear ho5 hg5 b5)
                go_roundw
                case rel => exact ⟨j + 1, by omega, _, HL9.out _, by omega, _, _, HC5.out⟩
                case measure => simp [intOf]; omega
              · obtain rfl : j = m := by omega
                have hge : (j : Int) ≤ (j : Int) := by omega
                have y0 : wr.cell? ⟨Bx, 0, none⟩ = some (.int .i64 opv) := HCBj.out.bx.cell 0
                have y1 : wr.cell? ⟨Bx, 1, none⟩ = some (.int .i64 0) := HCBj.out.bx.cell 1
                have y2 : wr.cell? ⟨Bx, 2, none⟩ = some (.int .i64 0) := HCBj.out.bx.cell 2
                have y3 : wr.cell? ⟨Bx, 3, none⟩ = some (.int .i64 0) := HCBj.out.bx.cell 3
                have y4 : wr.cell? ⟨Bx, 4, none⟩ = some (.int .i64 0) := HCBj.out.bx.cell 4
                have hal : wr.grownBy (wr.alloc (.cells #[.int .i64 opv, .int .i64 0, .int .i64 0, .int .i64 0, .int .i64 0, .slice A7 j c7] 43)) none := only_alloc (only_refl _ _) _
                have HO9 := Lib.hid ((HOI.out.none_ hcb.gr).none_ hal)
                have HG9 := Lib.hid (only_trans (only_trans HG.out hcb.gr) hal)
                have HI9 := Lib.hid (hcb.ow.ib.kept hal)
                have hsz9 : w.heap.size ≤ wr.heap.size + 1 := by have := HG9.out.size; simpa using this
                clear hcb hal
                go_wp2_with (at_builtin; (refine wpList_append_insn (base := w.heap.size) (op := opv) (t := ⟨0, 0, 0, 0, .slice A7 j c7, ls⟩) rfl _ _ rfl rfl rfl HO9.out (Blk.new _ _ _) ⟨HI9.out, by rw [hls]; exact hm3⟩ rfl (by omega) (by simpa using hsz9) ?_); intro v9 W9 ho9 hg9; have HOA := Lib.hid ho9; have HGA := Lib.hid (grown_ownB HG9.out (fun g e => (World.ownsRow.lt HO9.out.row g e).1) hg9); clear ho9 hg9)
                go_roundw
                case rel => exact ⟨k + 1, _, by omega, by rw [List.length_append, hxs]; rfl, by go_num, HGA.out, HOA.out⟩
                case measure => simp [intOf]; omega
          | false =>
            obtain ⟨m, hm, hm3⟩ : ∃ m : Nat, 1 + (rmany : Int) % 3 = (m : Int) ∧ m ≤ 3 := ⟨1 + rmany % 3, by omega, by omega⟩
            have hmI : (m : Int) ≤ 3 := by omega
            have hm0 : (0 : Int) ≤ (m : Int) := by omega
            go_wp2_with fail
            go_loopw [9] (fun z wr2 => ∃ (j : Nat) (ls : List Int) (A : Option Addr) (c : Nat), j ≤ m ∧ ls.length = j ∧ z = .int .i64 (j : Int) ∧ CB wr Bx opv (.slice A j c) ls wr2) (fun z _ => m - (intOf z).toNat)
            case atStart => exact ⟨0, [], none, 0, Nat.zero_le _, rfl, rfl, HCB.out⟩
            case round =>
              obtain ⟨j, ls, A7, c7, hj, hls, rfl, hcb⟩ := hrel
              have HCBj := Lib.hid hcb
              have hj0 : (0 : Int) ≤ (j : Int) := by omega
              have x5 : wr.cell? ⟨Bx, 5, none⟩ = some (.slice A7 j c7) := HCBj.out.bx.cell 5
              have hbx9 : Bx < wr.heap.size := cell_ltB x5
              by_cases hjlt : j < m
              · obtain ⟨lz, dz, hlz⟩ : ∃ lz : Nat, wr.cell? ⟨b, off + k * 5 + 2 + j, none⟩ = some (.int .u8 (lz : Int)) ∧ lz < 256 := by
                  have hj3 : j = 0 ∨ j = 1 ∨ j = 2 := by omega
                  rcases hj3 with rfl | rfl | rfl
                  · exact ⟨l0, cell_row c2 hcb.gr (fun e => by cases e), HOK.out.h2⟩
                  · exact ⟨l1, cell_row c3 hcb.gr (fun e => by cases e), HOK.out.h3⟩
                  · exact ⟨l2, cell_row c4 hcb.gr (fun e => by cases e), HOK.out.h4⟩
                have hmod : (j : Int) % 3 = (j : Int) := by omega
                have hlzI : (lz : Int) < 256 := by omega
                have hlz0 : (0 : Int) ≤ (lz : Int) := by omega
                have hjm : (j : Int) < (m : Int) := by omega
                have hj3 : (j : Int) < 3 := by omega
                have HL9 : Hid (∀ z : Int, (ls ++ [z]).length = j + 1) := Lib.hid fun z => by rw [List.length_append, hls]; rfl
                clear hcb
                go_wp2_with (at_builtin; (refine wpList_append_z (base := Bx + 1) rfl _ _ rfl rfl rfl (HCBj.out.ow.none_ (only_alloc (only_refl _ _) _)) (Blk.new _ _ _) (by omega) (by simp; omega) ?_); intro v5 W5 ho5 hg5; obtain ⟨A8, c8, rfl, _⟩ := id ho5.reads; rw [HL9.out] at ho5; have HC5 := Lib.hid ((HCBj.out.kept (only_alloc (only_refl _ _) _)).put hg5 ho5); have b5 := (HCBj.out.kept (only_alloc (only_refl _ _) _)).at_ hg5; have k5 := b5.cell 5; have f5 := b5.frozen 5; clear ho5 hg5 b5)
                go_roundw
                case rel => exact ⟨j + 1, by omega, _, HL9.out _, by omega, _, _, HC5.out⟩
                case measure => simp [intOf]; omega
              · obtain rfl : j = m := by omega
                have hge : (j : Int) ≤ (j : Int) := by omega
                have y0 : wr.cell? ⟨Bx, 0, none⟩ = some (.int .i64 opv) := HCBj.out.bx.cell 0
                have y1 : wr.cell? ⟨Bx, 1, none⟩ = some (.int .i64 0) := HCBj.out.bx.cell 1
                have y2 : wr.cell? ⟨Bx, 2, none⟩ = some (.int .i64 0) := HCBj.out.bx.cell 2
                have y3 : wr.cell? ⟨Bx, 3, none⟩ = some (.int .i64 0) := HCBj.out.bx.cell 3
                have y4 : wr.cell? ⟨Bx, 4, none⟩ = some (.int .i64 0) := HCBj.out.bx.cell 4
                have hal : wr.grownBy (wr.alloc (.cells #[.int .i64 opv, .int .i64 0, .int .i64 0, .int .i64 0, .int .i64 0, .slice A7 j c7] 43)) none := only_alloc (only_refl _ _) _
                have HO9 := Lib.hid ((HOI.out.none_ hcb.gr).none_ hal)
                have HG9 := Lib.hid (only_trans (only_trans HG.out hcb.gr) hal)
                have HI9 := Lib.hid (hcb.ow.ib.kept hal)
                have hsz9 : w.heap.size ≤ wr.heap.size + 1 := by have := HG9.out.size; simpa using this
                clear hcb hal
                go_wp2_with (at_builtin; (refine wpList_append_insn (base := w.heap.size) (op := opv) (t := ⟨0, 0, 0, 0, .slice A7 j c7, ls⟩) rfl _ _ rfl rfl rfl HO9.out (Blk.new _ _ _) ⟨HI9.out, by rw [hls]; exact hm3⟩ rfl (by omega) (by simpa using hsz9) ?_); intro v9 W9 ho9 hg9; have HOA := Lib.hid ho9; have HGA := Lib.hid (grown_ownB HG9.out (fun g e => (World.ownsRow.lt HO9.out.row g e).1) hg9); clear ho9 hg9)
                go_roundw
                case rel => exact ⟨k + 1, _, by omega, by rw [List.length_append, hxs]; rfl, by go_num, HGA.out, HOA.out⟩
                case measure => simp [intOf]; omega
        | false =>
          cases ob with
          | true =>
            obtain ⟨m, hm, hm3⟩ : ∃ m : Nat, (rmany : Int) % 4 = (m : Int) ∧ m ≤ 3 := ⟨rmany % 4, by omega, by omega⟩
            have hmI : (m : Int) ≤ 3 := by omega
            have hm0 : (0 : Int) ≤ (m : Int) := by omega
            go_wp2_with fail
            go_loopw [9] (fun z wr2 => ∃ (j : Nat) (ls : List Int) (A : Option Addr) (c : Nat), j ≤ m ∧ ls.length = j ∧ z = .int .i64 (j : Int) ∧ CB wr Bx opv (.slice A j c) ls wr2) (fun z _ => m - (intOf z).toNat)
            case atStart => exact ⟨0, [], none, 0, Nat.zero_le _, rfl, rfl, HCB.out⟩
            case round =>
              obtain ⟨j, ls, A7, c7, hj, hls, rfl, hcb⟩ := hrel
              have HCBj := Lib.hid hcb
              have hj0 : (0 : Int) ≤ (j : Int) := by omega
              have x5 : wr.cell? ⟨Bx, 5, none⟩ = some (.slice A7 j c7) := HCBj.out.bx.cell 5
              have hbx9 : Bx < wr.heap.size := cell_ltB x5
              by_cases hjlt : j < m
              · obtain ⟨lz, dz, hlz⟩ : ∃ lz : Nat, wr.cell? ⟨b, off + k * 5 + 2 + j, none⟩ = some (.int .u8 (lz : Int)) ∧ lz < 256 := by
                  have hj3 : j = 0 ∨ j = 1 ∨ j = 2 := by omega
                  rcases hj3 with rfl | rfl | rfl
                  · exact ⟨l0, cell_row c2 hcb.gr (fun e => by cases e), HOK.out.h2⟩
                  · exact ⟨l1, cell_row c3 hcb.gr (fun e => by cases e), HOK.out.h3⟩
                  · exact ⟨l2, cell_row c4 hcb.gr (fun e => by cases e), HOK.out.h4⟩
                have hmod : (j : Int) % 3 = (j : Int) := by omega
                have hlzI : (lz : Int) < 256 := by omega
                have hlz0 : (0 : Int) ≤ (lz : Int) := by omega
                have hjm : (j : Int) < (m : Int) := by omega
                have hj3 : (j : Int) < 3 := by omega
                have HL9 : Hid (∀ z : Int, (ls ++ [z]).length = j + 1) := Lib.hid fun z => by rw [List.length_append, hls]; rfl
                clear hcb
                go_wp2_with (at_builtin; (refine wpList_append_z (base := Bx + 1) rfl _ _ rfl rfl rfl (HCBj.out.ow.none_ (only_alloc (only_refl _ _) _)) (Blk.new _ _ _) (by omega) (by simp; omega) ?_); intro v5 W5 ho5 hg5; obtain ⟨A8, c8, rfl, _⟩ := id ho5.reads; rw [HL9.out] at ho5; have HC5 := Lib.hid ((HCBj.out.kept (only_alloc (only_refl _ _) _)).put hg5 ho5); have b5 := (HCBj.out.kept (only_alloc (only_refl _ _) _)).at_ hg5; have k5 := b5.cell 5; have f5 := b5.frozen 5; clear ho5 hg5 b5)
                go_roundw
                case rel => exact ⟨j + 1, by omega, _, HL9.out _, by omega, _, _, HC5.out⟩
                case measure => simp [intOf]; omega
              · obtain rfl : j = m := by omega
                have hge : (j : Int) ≤ (j : Int) := by omega
                have y0 : wr.cell? ⟨Bx, 0, none⟩ = some (.int .i64 opv) := HCBj.out.bx.cell 0
                have y1 : wr.cell? ⟨Bx, 1, none⟩ = some (.int .i64 0) := HCBj.out.bx.cell 1
                have y2 : wr.cell? ⟨Bx, 2, none⟩ = some (.int .i64 0) := HCBj.out.bx.cell 2
                have y3 : wr.cell? ⟨Bx, 3, none⟩ = some (.int .i64 0) := HCBj.out.bx.cell 3
                have y4 : wr.cell? ⟨Bx, 4, none⟩ = some (.int .i64 0) := HCBj.out.bx.cell 4
                have hal : wr.grownBy (wr.alloc (.cells #[.int .i64 opv, .int .i64 0, .int .i64 0, .int .i64 0, .int .i64 0, .slice A7 j c7] 43)) none := only_alloc (only_refl _ _) _
                have HO9 := Lib.hid ((HOI.out.none_ hcb.gr).none_ hal)
                have HG9 := Lib.hid (only_trans (only_trans HG.out hcb.gr) hal)
                have HI9 := Lib.hid (hcb.ow.ib.kept hal)
                have hsz9 : w.heap.size ≤ wr.heap.size + 1 := by have := HG9.out.size; simpa using this
                clear hcb hal
                go_wp2_with (at_builtin; (refine wpList_append_insn (base := w.heap.size) (op := opv) (t := ⟨0, 0, 0, 0, .slice A7 j c7, ls⟩) rfl _ _ rfl rfl rfl HO9.out (Blk.new _ _ _) ⟨HI9.out, by rw [hls]; exact hm3⟩ rfl (by omega) (by simpa using hsz9) ?_); intro v9 W9 ho9 hg9; have HOA := Lib.hid ho9; have HGA := Lib.hid (grown_ownB HG9.out (fun g e => (World.ownsRow.lt HO9.out.row g e).1) hg9); clear ho9 hg9)
                go_roundw
                case rel => exact ⟨k + 1, _, by omega, by rw [List.length_append, hxs]; rfl, by go_num, HGA.out, HOA.out⟩
                case measure => simp [intOf]; omega
          | false =>
            obtain ⟨m, hm, hm3⟩ : ∃ m : Nat, (1 : Int) = (m : Int) ∧ m ≤ 3 := ⟨1, rfl, by omega⟩
            have hmI : (m : Int) ≤ 3 := by omega
            have hm0 : (0 : Int) ≤ (m : Int) := by omega
            go_wp2_with fail
            go_loopw [9] (fun z wr2 => ∃ (j : Nat) (ls : List Int) (A : Option Addr) (c : Nat), j ≤ m ∧ ls.length = j ∧ z = .int .i64 (j : Int) ∧ CB wr Bx opv (.slice A j c) ls wr2) (fun z _ => m - (intOf z).toNat)
            case atStart => exact ⟨0, [], none, 0, Nat.zero_le _, rfl, rfl, HCB.out⟩
            case round =>
              obtain ⟨j, ls, A7, c7, hj, hls, rfl, hcb⟩ := hrel
              have HCBj := Lib.hid hcb
              have hj0 : (0 : Int) ≤ (j : Int) := by omega
              have x5 : wr.cell? ⟨Bx, 5, none⟩ = some (.slice A7 j c7) := HCBj.out.bx.cell 5
              have hbx9 : Bx < wr.heap.size := cell_ltB x5
              by_cases hjlt : j < m
              · obtain ⟨lz, dz, hlz⟩ : ∃ lz : Nat, wr.cell? ⟨b, off + k * 5 + 2 + j, none⟩ = some (.int .u8 (lz : Int)) ∧ lz < 256 := by
                  have hj3 : j = 0 ∨ j = 1 ∨ j = 2 := by omega
                  rcases hj3 with rfl | rfl | rfl
                  · exact ⟨l0, cell_row c2 hcb.gr (fun e => by cases e), HOK.out.h2⟩
                  · exact ⟨l1, cell_row c3 hcb.gr (fun e => by cases e), HOK.out.h3⟩
                  · exact ⟨l2, cell_row c4 hcb.gr (fun e => by cases e), HOK.out.h4⟩
                have hmod : (j : Int) % 3 = (j : Int) := by omega
                have hlzI : (lz : Int) < 256 := by omega
                have hlz0 : (0 : Int) ≤ (lz : Int) := by omega
                have hjm : (j : Int) < (m : Int) := by omega
                have hj3 : (j : Int) < 3 := by omega
                have HL9 : Hid (∀ z : Int, (ls ++ [z]).length = j + 1) := Lib.hid fun z => by rw [List.length_append, hls]; rfl
                clear hcb
                go_wp2_with (at_builtin; (refine wpList_append_z (base := Bx + 1) rfl _ _ rfl rfl rfl (HCBj.out.ow.none_ (only_alloc (only_refl _ _) _)) (Blk.new _ _ _) (by omega) (by simp; omega) ?_); intro v5 W5 ho5 hg5; obtain ⟨A8, c8, rfl, _⟩ := id ho5.reads; rw [HL9.out] at ho5; have HC5 := Lib.hid ((HCBj.out.kept (only_alloc (only_refl _ _) _)).put hg5 ho5); have b5 := (HCBj.out.kept (only_alloc (only_refl _ _) _)).at_ hg5; have k5 := b5.cell 5; have f5 := b5.frozen 5; clear ho5 hg5 b5)
                go_roundw
                case rel => exact ⟨j + 1, by omega, _, HL9.out _, by omega, _, _, HC5.out⟩
                case measure => simp [intOf]; omega
              · obtain rfl : j = m := by omega
                have hge : (j : Int) ≤ (j : Int) := by omega
                have y0 : wr.cell? ⟨Bx, 0, none⟩ = some (.int .i64 opv) := HCBj.out.bx.cell 0
                have y1 : wr.cell? ⟨Bx, 1, none⟩ = some (.int .i64 0) := HCBj.out.bx.cell 1
                have y2 : wr.cell? ⟨Bx, 2, none⟩ = some (.int .i64 0) := HCBj.out.bx.cell 2
                have y3 : wr.cell? ⟨Bx, 3, none⟩ = some (.int .i64 0) := HCBj.out.bx.cell 3
                have y4 : wr.cell? ⟨Bx, 4, none⟩ = some (.int .i64 0) := HCBj.out.bx.cell 4
                have hal : wr.grownBy (wr.alloc (.cells #[.int .i64 opv, .int .i64 0, .int .i64 0, .int .i64 0, .int .i64 0, .slice A7 j c7] 43)) none := only_alloc (only_refl _ _) _
                have HO9 := Lib.hid ((HOI.out.none_ hcb.gr).none_ hal)
                have HG9 := Lib.hid (only_trans (only_trans HG.out hcb.gr) hal)
                have HI9 := Lib.hid (hcb.ow.ib.kept hal)
                have hsz9 : w.heap.size ≤ wr.heap.size + 1 := by have := HG9.out.size; simpa using this
                clear hcb hal
                go_wp2_with (at_builtin; (refine wpList_append_insn (base := w.heap.size) (op := opv) (t := ⟨0, 0, 0, 0, .slice A7 j c7, ls⟩) rfl _ _ rfl rfl rfl HO9.out (Blk.new _ _ _) ⟨HI9.out, by rw [hls]; exact hm3⟩ rfl (by omega) (by simpa using hsz9) ?_); intro v9 W9 ho9 hg9; have HOA := Lib.hid ho9; have HGA := Lib.hid (grown_ownB HG9.out (fun g e => (World.ownsRow.lt HO9.out.row g e).1) hg9); clear ho9 hg9)
                go_roundw
                case rel => exact ⟨k + 1, _, by omega, by rw [List.length_append, hxs]; rfl, by go_num, HGA.out, HOA.out⟩
                case measure => simp [intOf]; omega
    · have hge : (n : Int) ≤ (k : Int) := by omega
      obtain rfl : k = n := by omega
      have HG := Lib.hid hg
      have HOI := Lib.hid hoi
      obtain ⟨A7, c7, rfl⟩ := own_lenB hoi.row
      clear hg hoi hk hlt
      have hlenb : (biL xs).length = k := by unfold biL; rw [List.length_map, hxs]
      rcases Nat.eq_zero_or_pos k with h0 | h0
      · subst h0
        go_wp2_with fail
        go_ret
        exact ⟨_, biL xs, rfl, HOI.out.codeB, by omega, fun x hx => by
          unfold biL at hx
          obtain ⟨y, hy, rfl⟩ := List.mem_map.1 hx
          exact (HOI.out.inn y hy).2, HG.out⟩
      · have h0I : (0 : Int) < (k : Int) := by omega
        cases ob with
        | true =>
          go_wp2_with fail
          go_ret
          exact ⟨_, biL xs, rfl, HOI.out.codeB, by omega, fun x hx => by
            unfold biL at hx
            obtain ⟨y, hy, rfl⟩ := List.mem_map.1 hx
            exact (HOI.out.inn y hy).2, HG.out⟩
        | false =>
          obtain ⟨m0, rfl⟩ : ∃ m0, k = m0 + 1 := ⟨k - 1, by omega⟩
          obtain ⟨g, rfl, hgb, hgn, hgc⟩ : ∃ g, A7 = some ⟨g, 0, none⟩ ∧ w.heap.size ≤ g ∧ m0 + 1 ≤ c7 ∧ c7 ≤ 9223372036854775807 := by
            rcases HOI.out.row.2 with ⟨e, h1⟩ | ⟨g, cap, cur, e, hb, _, h2, h3, _⟩
            · omega
            · injection e with e1 e2 e3
              subst e1
              subst e3
              exact ⟨g, rfl, hb, by omega, by unfold maxLen at h3; omega⟩
          obtain ⟨y, hy⟩ : ∃ y, xs[m0]? = some y := ⟨_, List.getElem?_eq_getElem (by omega)⟩
          have hcl : ∀ (j : Nat) (u : Value), (y.2.cells y.1)[j]? = some u → wr.cell? ⟨g, m0 * 6 + j, none⟩ = some u := fun j u hu => by
            have := World.ownsRow.cells HOI.out.row (g := g) rfl (m0 * 6 + j) u (insL_at xs m0 j y u hy hu)
            rwa [addr_B, Nat.zero_add] at this
          obtain ⟨cs', hbg⟩ := (own_rowB HOI.out.row g rfl).2
          have k0 : wr.cell? ⟨g, m0 * 6, none⟩ = some (.int .i64 y.1) := hcl 0 _ rfl
          have k1 : wr.cell? ⟨g, m0 * 6 + 1, none⟩ = some (.int .i64 y.2.a) := hcl 1 _ rfl
          have k2 : wr.cell? ⟨g, m0 * 6 + 2, none⟩ = some (.int .i64 y.2.b) := hcl 2 _ rfl
          have k3 : wr.cell? ⟨g, m0 * 6 + 3, none⟩ = some (.int .i64 y.2.c) := hcl 3 _ rfl
          have k4 : wr.cell? ⟨g, m0 * 6 + 4, none⟩ = some (.int .i64 y.2.d) := hcl 4 _ rfl
          have k5 : wr.cell? ⟨g, m0 * 6 + 5, none⟩ = some (y.2.lv) := hcl 5 _ rfl
          have f0 := hbg.frozen (m0 * 6)
          have f1 := hbg.frozen (m0 * 6 + 1)
          have f2 := hbg.frozen (m0 * 6 + 2)
          have f3 := hbg.frozen (m0 * 6 + 3)
          have f4 := hbg.frozen (m0 * 6 + 4)
          have f5 := hbg.frozen (m0 * 6 + 5)
          have hm0I : (m0 : Int) + 1 ≤ 128 := by omega
          have hm00 : (0 : Int) ≤ (m0 : Int) := by omega
          have HW9 := Lib.hid (own_last HOI.out hxs)
          have HG9 := Lib.hid (only_setNew (only_setNew (only_setNew (only_setNew (only_setNew (only_setNew HG.out (p := ⟨g, m0 * 6, none⟩) hgb (.int .i64 24)) (p := ⟨g, m0 * 6 + 1, none⟩) hgb (.int .i64 0)) (p := ⟨g, m0 * 6 + 2, none⟩) hgb (.int .i64 0)) (p := ⟨g, m0 * 6 + 3, none⟩) hgb (.int .i64 0)) (p := ⟨g, m0 * 6 + 4, none⟩) hgb (.int .i64 0)) (p := ⟨g, m0 * 6 + 5, none⟩) hgb (.slice none 0 0))
          clear hcl
          go_wp2_with fail
          go_ret
          refine ⟨_, _, rfl, HW9.out, by simp [biL]; omega, fun x hx => ?_, HG9.out⟩
          rcases List.mem_append.1 hx with h4 | h4
          · unfold biL at h4
            obtain ⟨y, hy, rfl⟩ := List.mem_map.1 h4
            exact (HOI.out.inn y (List.mem_of_mem_take hy)).2
          · obtain rfl := List.mem_singleton.1 h4
            simp
theorem coded_any (rs : List Rw) (odd : Nat) (v : Value) (w : World) (hR : RowsA w v rs) (ho : odd < 256) : Calls Try.prog 7 #[v, .int .u8 (odd : Int)] w (CodedR w) := by
  refine (codedB_any rs odd v w hR ho).mono ?_
  rintro e w' ⟨v', cs, h1, h2, h3⟩
  exact ⟨v', cs, h1, h2.a, h3⟩
end Go.Proofs.Ytgdoklbcmgkllaa

/- Texts joined for the claim's sake: MOpn, MOwF. -/
import Derived.Test.YtohhojbeclbedaaGreatDoorZMPrtRow32
import Derived.Test.YtohhojbeclbedaaGreatDoorZMPrtRow24
import Derived.Test.YtohhojbeclbedaaGreatDoorZMPrtRow31
import Derived.Test.YtohhojbeclbedaaGreatDoorZMPrtRow39
namespace Go.Proofs.YtohhojbeclbedaaGreatDoor
open Go.ChangeShapes Go.WideShapes Go.RowKit Go.Deep

theorem ListA.mono {α : Type} {E E' : Enc α} {sz : Nat} {S : Nat → Prop} {W : World} {v : Value} {xs : List α} (h : ListA E sz S W v xs) (hE : ∀ x cs, E S W x cs → E' S W x cs) : ListA E' sz S W v xs := by
  obtain ⟨A, c, h1, h2, h3, h4⟩ := h
  refine ⟨A, c, h1, h2, h3, fun hn => ?_⟩
  obtain ⟨b, off, h5, h6, h7⟩ := h4 hn
  refine ⟨b, off, h5, h6, fun i x hx => ?_⟩
  obtain ⟨cs, h8, h9⟩ := h7 i x hx
  exact ⟨cs, hE x cs h8, h9⟩
/-- An instruction, with its list's room. -/
def InsR : Enc Ins := fun S W x cs => ∃ lv, cs = #[.int .i64 x.op, .int .i64 x.a, .int .i64 x.b, .int .i64 x.c, .int .i64 x.d, lv] ∧ ListA IntE 1 S W lv x.l
def TplR : Enc Tpl := fun S W t cs => ∃ pv cv av, cs = #[pv, cv, av] ∧ ListA ParE 3 S W pv t.params ∧ ListA InsR 6 S W cv t.code ∧ ListA IntE 1 S W av t.at_
theorem insR_ok : InsR.Ok 6 := ⟨fun ⟨nv, h1, h2⟩ hk => ⟨nv, h1, h2.kept int_ok hk⟩, fun ⟨nv, h1, h2⟩ hk => ⟨nv, h1, h2.more int_ok (by omega) hk⟩, fun ⟨_, h, _⟩ => by rw [h]; rfl⟩
theorem tplR_ok : TplR.Ok 3 := ⟨fun ⟨pv, cv, av, h1, h2, h3, h4⟩ hk => ⟨pv, cv, av, h1, h2.kept par_ok hk, h3.kept insR_ok hk, h4.kept int_ok hk⟩, fun ⟨pv, cv, av, h1, h2, h3, h4⟩ hk => ⟨pv, cv, av, h1, h2.more par_ok (by omega) hk, h3.more insR_ok (by omega) hk, h4.more int_ok (by omega) hk⟩, fun ⟨_, _, _, h, _⟩ => by rw [h]; rfl⟩
theorem InsR.ins {S : Nat → Prop} {W : World} {x : Ins} {cs : Array Value} (h : InsR S W x cs) : InsE S W x cs := by
  obtain ⟨lv, h1, h2⟩ := h
  exact ⟨lv, h1, h2.ints⟩
theorem TplR.tpl {S : Nat → Prop} {W : World} {x : Tpl} {cs : Array Value} (h : TplR S W x cs) : TplE S W x cs := by
  obtain ⟨pv, cv, av, h1, h2, h3, h4⟩ := h
  exact ⟨pv, cv, av, h1, h2, h3.mono fun _ _ => InsR.ins, h4⟩

theorem cells_oi : Tryz.prog.cellsOf 3 = 1 := by kernel_rfl
theorem cells_oi64 : Tryz.prog.cellsOf 2 = 1 := by kernel_rfl
theorem cells_ob : Tryz.prog.cellsOf 4 = 1 := by kernel_rfl
theorem cells_oe : Tryz.prog.cellsOf 62 = 2 := by kernel_rfl
theorem cells_oy : Tryz.prog.cellsOf 67 = 2 := by kernel_rfl
theorem cells_on : Tryz.prog.cellsOf 65 = 6 := by kernel_rfl
theorem cells_op : Tryz.prog.cellsOf 69 = 3 := by kernel_rfl
theorem cells_ox : Tryz.prog.cellsOf 52 = 6 := by kernel_rfl
theorem cells_ot : Tryz.prog.cellsOf 50 = 3 := by kernel_rfl
theorem cells_oa : Tryz.prog.cellsOf 71 = 3 := by kernel_rfl
theorem cells_os : Tryz.prog.cellsOf 74 = 2 := by kernel_rfl
theorem cells_om : Tryz.prog.cellsOf 28 = 8 := by kernel_rfl
theorem cells_oli : Tryz.prog.cellsOf 26 = 1 := by kernel_rfl
theorem cells_ole : Tryz.prog.cellsOf 63 = 1 := by kernel_rfl
theorem cells_oly : Tryz.prog.cellsOf 24 = 1 := by kernel_rfl
theorem cells_oln : Tryz.prog.cellsOf 22 = 1 := by kernel_rfl
theorem cells_olp : Tryz.prog.cellsOf 47 = 1 := by kernel_rfl
theorem cells_olx : Tryz.prog.cellsOf 48 = 1 := by kernel_rfl
theorem cells_olt : Tryz.prog.cellsOf 23 = 1 := by kernel_rfl
theorem cells_ola : Tryz.prog.cellsOf 72 = 1 := by kernel_rfl
theorem cells_ols : Tryz.prog.cellsOf 25 = 1 := by kernel_rfl

section
variable {H : Type} {enc : TypeId × Value → H} {W : World}
set_option maxRecDepth 100000 in
/-- A list whose things are opened, one by one. -/
theorem list_of {α : Type} [Inhabited α] {E : Enc α} {sz : Nat} {ts t : TypeId} (P : α → Prop) (hu : Tryz.prog.underlying ts = some (.slice t)) (hsz : Tryz.prog.cellsOf t = sz) (h0 : 0 < sz)
    (hel : ∀ {fuel : Nat} {cs : List Value} {x : DataW H × List MemPlace}, cs.length = sz → DataW.trod enc Tryz.prog W 0 (fun _ => true) true fuel t cs = some x → ∃ y : α, E (fun b => b < W.heap.size) W y cs.toArray ∧ P y)
    {fuel : Nat} {v : Value} {x : DataW H × List MemPlace} (h : DataW.trod enc Tryz.prog W 0 (fun _ => true) true fuel ts [v] = some x) : ∃ xs : List α, ListA E sz (fun b => b < W.heap.size) W v xs ∧ ∀ y ∈ xs, P y := by
  rcases open_slice hu h with ⟨hcs, _⟩ | ⟨a, len, cap, m, n, D, Pl, hcs, _, hl, hc, hm, _, hall⟩
  · simp only [List.cons.injEq, and_true] at hcs
    subst hcs
    exact ⟨[], ListA.nil_ _ _, fun y hy => by cases hy⟩
  · simp only [List.cons.injEq, and_true] at hcs
    subst hcs
    rw [if_pos rfl] at hm
    obtain ⟨b, off, spot⟩ := a
    have each : ∀ i, i < len → ∃ y : α × Array Value, E (fun b => b < W.heap.size) W y.1 y.2 ∧ P y.1 ∧ y.2.size = sz ∧ ∀ j u, y.2[j]? = some u → W.cell? (((⟨b, off, spot⟩ : Addr).add (i * sz)).add j) = some u := fun i hi => by
      obtain ⟨cs', h1, h2⟩ := hall i (by omega)
      rw [hsz] at h1
      obtain ⟨_, hlen, hcell⟩ := World.cells?_some h1
      obtain ⟨y, h3, h4⟩ := hel hlen h2
      refine ⟨(y, cs'.toArray), h3, h4, by simpa using hlen, fun j u hu => ?_⟩
      have hu' : cs'[j]? = some u := by simpa using hu
      have hj : j < sz := by rw [← hlen]; exact (List.getElem?_eq_some_iff.1 hu').1
      rw [hcell j hj, hu']
    obtain ⟨f, hf⟩ := choose_lt each
    refine ⟨(List.range len).map (fun i => (f i).1), ⟨some ⟨b, off, spot⟩, cap, by simp, by simpa using hl, by unfold maxLen at hc; omega, fun hn => ?_⟩, fun y hy => ?_⟩
    · have h0' : 0 < len := by
        rcases Nat.eq_zero_or_pos len with e | e
        · subst e; simp at hn
        · exact e
      have hspot : spot = none := by
        obtain ⟨_, _, k1, k2⟩ := hf 0 h0'
        simpa [Addr.add] using World.cell?_spot (k2 0 _ (Array.getElem?_eq_getElem (by omega)))
      subst hspot
      have hat : ∀ (i : Nat), i < len → ∀ (j : Nat) (u : Value), (f i).2[j]? = some u → W.cell? ⟨b, off + i * sz + j, none⟩ = some u := fun i hi j u hu => by
        have := (hf i hi).2.2.2 j u hu
        rw [add_plain, add_plain] at this
        exact this
      refine ⟨b, off, rfl, ?_, fun i x he => ?_⟩
      · have k1 := (hf 0 h0').2.2.1
        exact cell_lt (hat 0 h0' 0 _ (Array.getElem?_eq_getElem (by omega)))
      · rw [List.getElem?_map] at he
        rcases Nat.lt_or_ge i len with hi | hi
        · rw [List.getElem?_range hi] at he
          simp only [Option.map_some, Option.some.injEq] at he
          subst he
          exact ⟨(f i).2, (hf i hi).1, hat i hi⟩
        · rw [List.getElem?_eq_none (by simpa using hi)] at he
          simp at he
    · obtain ⟨i, hi, rfl⟩ := List.mem_map.1 hy
      exact (hf i (by simpa using hi)).2.1
variable {fuel : Nat} {x : DataW H × List MemPlace} {cs : List Value}
instance : Inhabited Edg := ⟨⟨0, 0⟩⟩
instance : Inhabited Nod := ⟨⟨0, 0, false, default, []⟩⟩
instance : Inhabited Par := ⟨⟨false, default⟩⟩
instance : Inhabited Ins := ⟨⟨0, 0, 0, 0, 0, []⟩⟩
instance : Inhabited Tpl := ⟨⟨[], [], []⟩⟩
instance : Inhabited Arg := ⟨⟨false, 0, 0⟩⟩
instance : Inhabited Sta := ⟨⟨0, []⟩⟩
theorem oint_of (h : DataW.trod enc Tryz.prog W 0 (fun _ => true) true fuel 3 cs = some x) : ∃ z : Int, cs = [.int .i64 z] := by
  obtain ⟨z, hz, _, _⟩ := DataW.trod_int Tryz.underlying3 h
  exact ⟨z, hz⟩
set_option maxRecDepth 100000 in
theorem edg_of (hl : cs.length = 2) (h : DataW.trod enc Tryz.prog W 0 (fun _ => true) true fuel 62 cs = some x) : ∃ e : Edg, cs = [.int .i64 e.to, .int .i64 e.sh] := by
  obtain ⟨ys, n, _, _, _, hyl, hf⟩ := DataW.trod_struct Tryz.underlying62 h
  match cs, hl with
  | [c0, c1], _ =>
    match ys, hyl with
    | [y0, y1], _ =>
      have g0 : DataW.trod enc Tryz.prog W 0 (fun _ => true) true n 3 [c0] = some y0 := by simpa [cells_oi] using hf 0 _ rfl
      have g1 : DataW.trod enc Tryz.prog W 0 (fun _ => true) true n 3 [c1] = some y1 := by simpa [cells_oi] using hf 1 _ rfl
      obtain ⟨z0, e0⟩ := oint_of g0
      obtain ⟨z1, e1⟩ := oint_of g1
      simp only [List.cons.injEq, and_true] at e0 e1
      subst e0 e1
      exact ⟨⟨z0, z1⟩, rfl⟩
set_option maxRecDepth 100000 in
theorem typ_of (hl : cs.length = 2) (h : DataW.trod enc Tryz.prog W 0 (fun _ => true) true fuel 67 cs = some x) : ∃ e : Edg, cs = [.int .i64 e.to, .int .i64 e.sh] := by
  obtain ⟨ys, n, _, _, _, hyl, hf⟩ := DataW.trod_struct Tryz.underlying67 h
  match cs, hl with
  | [c0, c1], _ =>
    match ys, hyl with
    | [y0, y1], _ =>
      have g0 : DataW.trod enc Tryz.prog W 0 (fun _ => true) true n 3 [c0] = some y0 := by simpa [cells_oi] using hf 0 _ rfl
      have g1 : DataW.trod enc Tryz.prog W 0 (fun _ => true) true n 3 [c1] = some y1 := by simpa [cells_oi] using hf 1 _ rfl
      obtain ⟨z0, e0⟩ := oint_of g0
      obtain ⟨z1, e1⟩ := oint_of g1
      simp only [List.cons.injEq, and_true] at e0 e1
      subst e0 e1
      exact ⟨⟨z0, z1⟩, rfl⟩
theorem lint_of {v : Value} (h : DataW.trod enc Tryz.prog W 0 (fun _ => true) true fuel 26 [v] = some x) : ∃ xs : List Int, ListA IntE 1 (fun b => b < W.heap.size) W v xs := by
  obtain ⟨xs, h1, _⟩ := list_of (E := IntE) (fun _ => True) Tryz.underlying26 cells_oi (by omega) (fun _ h => by
    obtain ⟨z, rfl⟩ := oint_of h
    exact ⟨z, rfl, trivial⟩) h
  exact ⟨xs, h1⟩
theorem ledg_of {v : Value} (h : DataW.trod enc Tryz.prog W 0 (fun _ => true) true fuel 63 [v] = some x) : ∃ xs : List Edg, ListA EdgE 2 (fun b => b < W.heap.size) W v xs := by
  obtain ⟨xs, h1, _⟩ := list_of (E := EdgE) (fun _ => True) Tryz.underlying63 cells_oe (by omega) (fun hl h => by
    obtain ⟨z, rfl⟩ := edg_of hl h
    exact ⟨z, rfl, trivial⟩) h
  exact ⟨xs, h1⟩
theorem ltyp_of {v : Value} (h : DataW.trod enc Tryz.prog W 0 (fun _ => true) true fuel 24 [v] = some x) : ∃ xs : List Edg, ListA EdgE 2 (fun b => b < W.heap.size) W v xs := by
  obtain ⟨xs, h1, _⟩ := list_of (E := EdgE) (fun _ => True) Tryz.underlying24 cells_oy (by omega) (fun hl h => by
    obtain ⟨z, rfl⟩ := typ_of hl h
    exact ⟨z, rfl, trivial⟩) h
  exact ⟨xs, h1⟩
set_option maxRecDepth 100000 in
theorem nod_of (hl : cs.length = 6) (h : DataW.trod enc Tryz.prog W 0 (fun _ => true) true fuel 65 cs = some x) : ∃ y : Nod, NodE (fun b => b < W.heap.size) W y cs.toArray := by
  obtain ⟨ys, n, _, _, _, hyl, hf⟩ := DataW.trod_struct Tryz.underlying65 h
  match cs, hl with
  | [c0, c1, c2, c3, c4, c5], _ =>
    match ys, hyl with
    | [y0, y1, y2, y3, y4], _ =>
      have g0 : DataW.trod enc Tryz.prog W 0 (fun _ => true) true n 3 [c0] = some y0 := by simpa [cells_oi] using hf 0 _ rfl
      have g1 : DataW.trod enc Tryz.prog W 0 (fun _ => true) true n 3 [c1] = some y1 := by simpa [cells_oi] using hf 1 _ rfl
      have g2 : DataW.trod enc Tryz.prog W 0 (fun _ => true) true n 4 [c2] = some y2 := by simpa [cells_ob] using hf 2 _ rfl
      have g3 : DataW.trod enc Tryz.prog W 0 (fun _ => true) true n 62 [c3, c4] = some y3 := by simpa [cells_oe] using hf 3 _ rfl
      have g4 : DataW.trod enc Tryz.prog W 0 (fun _ => true) true n 63 [c5] = some y4 := by simpa [cells_ole] using hf 4 _ rfl
      obtain ⟨z0, e0⟩ := oint_of g0
      obtain ⟨z1, e1⟩ := oint_of g1
      obtain ⟨z2, e2, _⟩ := DataW.trod_bool Tryz.underlying4 g2
      obtain ⟨z3, e3⟩ := edg_of rfl g3
      obtain ⟨z4, e4⟩ := ledg_of g4
      simp only [List.cons.injEq, and_true] at e0 e1 e2 e3
      obtain ⟨e3, e3'⟩ := e3
      subst e0 e1 e2 e3 e3'
      exact ⟨⟨z0, z1, z2, z3, z4⟩, _, rfl, e4⟩
set_option maxRecDepth 100000 in
theorem par_of (hl : cs.length = 3) (h : DataW.trod enc Tryz.prog W 0 (fun _ => true) true fuel 69 cs = some x) : ∃ y : Par, ParE (fun b => b < W.heap.size) W y cs.toArray := by
  obtain ⟨ys, n, _, _, _, hyl, hf⟩ := DataW.trod_struct Tryz.underlying69 h
  match cs, hl with
  | [c0, c1, c2], _ =>
    match ys, hyl with
    | [y0, y1], _ =>
      have g0 : DataW.trod enc Tryz.prog W 0 (fun _ => true) true n 4 [c0] = some y0 := by simpa [cells_ob] using hf 0 _ rfl
      have g1 : DataW.trod enc Tryz.prog W 0 (fun _ => true) true n 67 [c1, c2] = some y1 := by simpa [cells_oy] using hf 1 _ rfl
      obtain ⟨z0, e0, _⟩ := DataW.trod_bool Tryz.underlying4 g0
      obtain ⟨z1, e1⟩ := typ_of rfl g1
      simp only [List.cons.injEq, and_true] at e0 e1
      obtain ⟨e1, e1'⟩ := e1
      subst e0 e1 e1'
      exact ⟨⟨z0, z1⟩, rfl⟩
set_option maxRecDepth 100000 in
theorem insR_of (hl : cs.length = 6) (h : DataW.trod enc Tryz.prog W 0 (fun _ => true) true fuel 52 cs = some x) : ∃ y : Ins, InsR (fun b => b < W.heap.size) W y cs.toArray ∧ Whole y.a := by
  obtain ⟨ys, n, _, _, _, hyl, hf⟩ := DataW.trod_struct Tryz.underlying52 h
  match cs, hl with
  | [c0, c1, c2, c3, c4, c5], _ =>
    match ys, hyl with
    | [y0, y1, y2, y3, y4, y5], _ =>
      have g0 : DataW.trod enc Tryz.prog W 0 (fun _ => true) true n 3 [c0] = some y0 := by simpa [cells_oi, cells_oi64] using hf 0 _ rfl
      have g1 : DataW.trod enc Tryz.prog W 0 (fun _ => true) true n 2 [c1] = some y1 := by simpa [cells_oi, cells_oi64] using hf 1 _ rfl
      have g2 : DataW.trod enc Tryz.prog W 0 (fun _ => true) true n 3 [c2] = some y2 := by simpa [cells_oi, cells_oi64] using hf 2 _ rfl
      have g3 : DataW.trod enc Tryz.prog W 0 (fun _ => true) true n 3 [c3] = some y3 := by simpa [cells_oi, cells_oi64] using hf 3 _ rfl
      have g4 : DataW.trod enc Tryz.prog W 0 (fun _ => true) true n 3 [c4] = some y4 := by simpa [cells_oi, cells_oi64] using hf 4 _ rfl
      have g5 : DataW.trod enc Tryz.prog W 0 (fun _ => true) true n 26 [c5] = some y5 := by simpa [cells_oi, cells_oi64, cells_oli] using hf 5 _ rfl
      obtain ⟨z0, e0⟩ := oint_of g0
      obtain ⟨z1, e1, w1, _⟩ := DataW.trod_int Tryz.underlying2 g1
      obtain ⟨z2, e2⟩ := oint_of g2
      obtain ⟨z3, e3⟩ := oint_of g3
      obtain ⟨z4, e4⟩ := oint_of g4
      obtain ⟨zs, hzs⟩ := lint_of g5
      simp only [List.cons.injEq, and_true] at e0 e1 e2 e3 e4
      subst e0 e1 e2 e3 e4
      exact ⟨⟨z0, z1, z2, z3, z4, zs⟩, ⟨_, rfl, hzs⟩, bounds_i64 (by first | exact w1 | assumption)⟩
set_option maxRecDepth 100000 in
theorem tplR_of (hl : cs.length = 3) (h : DataW.trod enc Tryz.prog W 0 (fun _ => true) true fuel 50 cs = some x) : ∃ y : Tpl, TplR (fun b => b < W.heap.size) W y cs.toArray ∧ ∀ z ∈ y.code, Whole z.a := by
  obtain ⟨ys, n, _, _, _, hyl, hf⟩ := DataW.trod_struct Tryz.underlying50 h
  match cs, hl with
  | [c0, c1, c2], _ =>
    match ys, hyl with
    | [y0, y1, y2], _ =>
      have g0 : DataW.trod enc Tryz.prog W 0 (fun _ => true) true n 47 [c0] = some y0 := by simpa [cells_olp] using hf 0 _ rfl
      have g1 : DataW.trod enc Tryz.prog W 0 (fun _ => true) true n 48 [c1] = some y1 := by simpa [cells_olp, cells_olx] using hf 1 _ rfl
      have g2 : DataW.trod enc Tryz.prog W 0 (fun _ => true) true n 26 [c2] = some y2 := by simpa [cells_olp, cells_olx, cells_oli] using hf 2 _ rfl
      obtain ⟨ps, hps, _⟩ := list_of (E := ParE) (fun _ => True) Tryz.underlying47 cells_op (by omega) (fun hl h => by
        obtain ⟨z, hz⟩ := par_of hl h
        exact ⟨z, hz, trivial⟩) g0
      obtain ⟨xs, hxs, hw⟩ := list_of (E := InsR) (fun z => Whole z.a) Tryz.underlying48 cells_ox (by omega) insR_of g1
      obtain ⟨zs, hzs⟩ := lint_of g2
      exact ⟨⟨ps, xs, zs⟩, ⟨_, _, _, rfl, hps, hxs, hzs⟩, hw⟩
set_option maxRecDepth 100000 in
theorem arg_of (hl : cs.length = 3) (h : DataW.trod enc Tryz.prog W 0 (fun _ => true) true fuel 71 cs = some x) : ∃ y : Arg, ArgE (fun b => b < W.heap.size) W y cs.toArray ∧ Whole y.word := by
  obtain ⟨ys, n, _, _, _, hyl, hf⟩ := DataW.trod_struct Tryz.underlying71 h
  match cs, hl with
  | [c0, c1, c2], _ =>
    match ys, hyl with
    | [y0, y1, y2], _ =>
      have g0 : DataW.trod enc Tryz.prog W 0 (fun _ => true) true n 4 [c0] = some y0 := by simpa [cells_ob, cells_oi64, cells_oi] using hf 0 _ rfl
      have g1 : DataW.trod enc Tryz.prog W 0 (fun _ => true) true n 2 [c1] = some y1 := by simpa [cells_ob, cells_oi64, cells_oi] using hf 1 _ rfl
      have g2 : DataW.trod enc Tryz.prog W 0 (fun _ => true) true n 3 [c2] = some y2 := by simpa [cells_ob, cells_oi64, cells_oi] using hf 2 _ rfl
      obtain ⟨z0, e0, _⟩ := DataW.trod_bool Tryz.underlying4 g0
      obtain ⟨z1, e1, w1, _⟩ := DataW.trod_int Tryz.underlying2 g1
      obtain ⟨z2, e2⟩ := oint_of g2
      simp only [List.cons.injEq, and_true] at e0 e1 e2
      subst e0 e1 e2
      exact ⟨⟨z0, z1, z2⟩, rfl, bounds_i64 (by first | exact w1 | assumption)⟩
set_option maxRecDepth 100000 in
theorem sta_of (hl : cs.length = 2) (h : DataW.trod enc Tryz.prog W 0 (fun _ => true) true fuel 74 cs = some x) : ∃ y : Sta, StaE (fun b => b < W.heap.size) W y cs.toArray ∧ ∀ z ∈ y.args, Whole z.word := by
  obtain ⟨ys, n, _, _, _, hyl, hf⟩ := DataW.trod_struct Tryz.underlying74 h
  match cs, hl with
  | [c0, c1], _ =>
    match ys, hyl with
    | [y0, y1], _ =>
      have g0 : DataW.trod enc Tryz.prog W 0 (fun _ => true) true n 3 [c0] = some y0 := by simpa [cells_oi] using hf 0 _ rfl
      have g1 : DataW.trod enc Tryz.prog W 0 (fun _ => true) true n 72 [c1] = some y1 := by simpa [cells_oi, cells_ola] using hf 1 _ rfl
      obtain ⟨z0, e0⟩ := oint_of g0
      obtain ⟨xs, hxs, hw⟩ := list_of (E := ArgE) (fun z => Whole z.word) Tryz.underlying72 cells_oa (by omega) arg_of g1
      simp only [List.cons.injEq, and_true] at e0
      subst e0
      exact ⟨⟨z0, xs⟩, ⟨_, rfl, hxs⟩, hw⟩
/-- A module that was handed in: its lists lie in blocks below N. -/
structure ModA (N : Nat) (W : World) (v : Value) (m : Mo) : Prop where
  is : ∃ v0 v1 v2 v3 v4 v5 v6 v7, v = .agg #[v0, v1, v2, v3, v4, v5, v6, v7] ∧ ListA NodE 6 (fun b => b < N) W v0 m.nodes ∧ ListA TplR 3 (fun b => b < N) W v1 m.tpls ∧ ListA EdgE 2 (fun b => b < N) W v2 m.chans ∧ ListA StaE 2 (fun b => b < N) W v3 m.starts ∧
    ListA IntE 1 (fun b => b < N) W v4 m.at0 ∧ ListA IntE 1 (fun b => b < N) W v5 m.at1 ∧ ListA IntE 1 (fun b => b < N) W v6 m.at2 ∧ ListA IntE 1 (fun b => b < N) W v7 m.at3
  code : ∀ t ∈ m.tpls, ∀ x ∈ t.code, Whole x.a
  args : ∀ s ∈ m.starts, ∀ a ∈ s.args, Whole a.word
theorem ModA.keptS {N : Nat} {W W' : World} {v : Value} {m : Mo} (h : ModA N W v m) (hk : KeptS (fun b => b < N) W W') : ModA N W' v m := by
  obtain ⟨⟨v0, v1, v2, v3, v4, v5, v6, v7, e, l0, l1, l2, l3, l4, l5, l6, l7⟩, h1, h2⟩ := h
  exact ⟨⟨v0, v1, v2, v3, v4, v5, v6, v7, e, l0.kept nod_ok hk, l1.kept tplR_ok hk, l2.kept edg_ok hk, l3.kept sta_ok hk, l4.kept int_ok hk, l5.kept int_ok hk, l6.kept int_ok hk, l7.kept int_ok hk⟩, h1, h2⟩
theorem ModA.kept {N : Nat} {W W' : World} {v : Value} {m : Mo} (h : ModA N W v m) (hg : W.grownBy W' none) : ModA N W' v m := h.keptS (KeptS.none_ hg)
set_option maxRecDepth 100000 in
theorem open_mod {r : Reach} {b0 : Nat} {v : Value} {d : DataW H} {p : List MemPlace} (hv : Value.okWide Tryz.prog W r b0 28 v) (h : DataW.Trod enc Tryz.prog W 0 (fun _ => true) true 28 v d p) : ∃ m : Mo, ModA W.heap.size W v m := by
  simp only [Value.okWide, Tryz.underlying28] at hv
  obtain ⟨cs, rfl, hs, _⟩ := hv
  obtain ⟨fuel, hf⟩ := h
  have hf' : DataW.trod enc Tryz.prog W 0 (fun _ => true) true fuel 28 cs.toList = some (d, p) := by simpa [Value.cells] using hf
  have hl : cs.toList.length = 8 := by rw [Array.length_toList, hs, cells_om]
  obtain ⟨l, rfl⟩ : ∃ l : List Value, cs = l.toArray := ⟨cs.toList, by simp⟩
  rw [List.toList_toArray] at hf' hl
  obtain ⟨ys, n, _, _, _, hyl, hf⟩ := DataW.trod_struct Tryz.underlying28 hf'
  match l, hl with
  | [c0, c1, c2, c3, c4, c5, c6, c7], _ =>
    match ys, hyl with
    | [y0, y1, y2, y3, y4, y5, y6, y7], _ =>
      have g0 : DataW.trod enc Tryz.prog W 0 (fun _ => true) true n 22 [c0] = some y0 := by simpa [cells_oln] using hf 0 _ rfl
      have g1 : DataW.trod enc Tryz.prog W 0 (fun _ => true) true n 23 [c1] = some y1 := by simpa [cells_oln, cells_olt] using hf 1 _ rfl
      have g2 : DataW.trod enc Tryz.prog W 0 (fun _ => true) true n 24 [c2] = some y2 := by simpa [cells_oln, cells_olt, cells_oly] using hf 2 _ rfl
      have g3 : DataW.trod enc Tryz.prog W 0 (fun _ => true) true n 25 [c3] = some y3 := by simpa [cells_oln, cells_olt, cells_oly, cells_ols] using hf 3 _ rfl
      have g4 : DataW.trod enc Tryz.prog W 0 (fun _ => true) true n 26 [c4] = some y4 := by simpa [cells_oln, cells_olt, cells_oly, cells_ols, cells_oli] using hf 4 _ rfl
      have g5 : DataW.trod enc Tryz.prog W 0 (fun _ => true) true n 26 [c5] = some y5 := by simpa [cells_oln, cells_olt, cells_oly, cells_ols, cells_oli] using hf 5 _ rfl
      have g6 : DataW.trod enc Tryz.prog W 0 (fun _ => true) true n 26 [c6] = some y6 := by simpa [cells_oln, cells_olt, cells_oly, cells_ols, cells_oli] using hf 6 _ rfl
      have g7 : DataW.trod enc Tryz.prog W 0 (fun _ => true) true n 26 [c7] = some y7 := by simpa [cells_oln, cells_olt, cells_oly, cells_ols, cells_oli] using hf 7 _ rfl
      obtain ⟨l0, h0, _⟩ := list_of (E := NodE) (fun _ => True) Tryz.underlying22 cells_on (by omega) (fun hl h => by
        obtain ⟨z, hz⟩ := nod_of hl h
        exact ⟨z, hz, trivial⟩) g0
      obtain ⟨l1, h1, k1⟩ := list_of (E := TplR) (fun y => ∀ z ∈ y.code, Whole z.a) Tryz.underlying23 cells_ot (by omega) tplR_of g1
      obtain ⟨l2, h2⟩ := ltyp_of g2
      obtain ⟨l3, h3, k3⟩ := list_of (E := StaE) (fun y => ∀ z ∈ y.args, Whole z.word) Tryz.underlying25 cells_os (by omega) sta_of g3
      obtain ⟨l4, h4⟩ := lint_of g4
      obtain ⟨l5, h5⟩ := lint_of g5
      obtain ⟨l6, h6⟩ := lint_of g6
      obtain ⟨l7, h7⟩ := lint_of g7
      exact ⟨⟨l0, l1, l2, l3, l4, l5, l6, l7⟩, ⟨_, _, _, _, _, _, _, _, rfl, h0, h1, h2, h3, h4, h5, h6, h7⟩, k1, k3⟩
end
end Go.Proofs.YtohhojbeclbedaaGreatDoor

namespace Go.Proofs.YtohhojbeclbedaaGreatDoor
open Go.RowKit

/-- A list that a call makes, beside blocks T that others turn: css are its things' cells. -/
structure OQ {α : Type} (E : Enc α) (sz : Nat) (t : TypeId) (base : Nat) (T : Nat → Prop) (W : World) (v : Value) (xs : List α) (css : List (Array Value)) : Prop where
  row : W.ownsRow base t sz v xs.length (css.flatMap Array.toList)
  len : css.length = xs.length
  sizes : ∀ cs ∈ css, cs.size = sz
  el : ∀ (i : Nat) (x : α) (cs : Array Value), xs[i]? = some x → css[i]? = some cs → E (fun k => ¬ T k ∧ some k ≠ v.ownBlock) W x cs
  ap : ∀ k, v.ownBlock = some k → ¬ T k
section
variable {α : Type} {E : Enc α} {sz : Nat} {t : TypeId} {base : Nat} {T T' : Nat → Prop} {W W' : World} {v : Value} {xs : List α} {css : List (Array Value)}
theorem OQ.nil_ (E : Enc α) (sz : Nat) (t : TypeId) (base : Nat) (T : Nat → Prop) (W : World) : OQ E sz t base T W (.slice none 0 0) [] [] :=
  ⟨World.ownsRow_nil _ _ _ _, rfl, (fun cs h => by cases h), (fun i x cs h => by simp at h), (fun k h => by simp [Value.ownBlock] at h)⟩
theorem OQ.turn (hE : E.Ok sz) (h : OQ E sz t base T W v xs css) (ht : Turn T W W') (hT : ∀ k, k < W.heap.size → ¬ T k → ¬ T' k) : OQ E sz t base T' W' v xs css := by
  refine ⟨own_turn h.row ht h.ap, h.len, h.sizes, fun i x cs h1 h2 => ?_, fun k hk => hT k (World.ownsRow.lt h.row k hk).2 (h.ap k hk)⟩
  have e1 := hE.more (S' := fun k => (¬ T' k ∧ some k ≠ v.ownBlock) ∧ ¬ T k) (h.el i x cs h1 h2) (fun b hb hl => ⟨⟨hT b hl hb.1, hb.2⟩, hb.1⟩)
  exact hE.more (hE.kept e1 (KeptS.of_turn ht (fun b hb => hb.2))) (fun b hb _ => hb.1)
theorem OQ.none_ (hE : E.Ok sz) (h : OQ E sz t base T W v xs css) (hg : W.grownBy W' none) : OQ E sz t base T W' v xs css := h.turn hE (Turn.none_ hg) (fun _ _ h => h)
theorem OQ.list (hE : E.Ok sz) (h : OQ E sz t base T W v xs css) : ListA E sz (fun k => ¬ T k) W v xs := by
  rcases h.row.2 with ⟨rfl, hn⟩ | ⟨g, cap, cur, rfl, hb, hh, hn, hm, _, _⟩
  · obtain rfl : xs = [] := List.length_eq_zero_iff.1 hn
    exact ListA.nil_ _ _
  · refine ⟨some ⟨g, 0, none⟩, cap, rfl, hn, by unfold maxLen at hm; omega, fun _ => ⟨g, 0, rfl, h.ap g rfl, fun i x hx => ?_⟩⟩
    have hi : i < css.length := by rw [h.len]; exact (List.getElem?_eq_some_iff.1 hx).1
    obtain ⟨cs, hcs⟩ : ∃ cs, css[i]? = some cs := ⟨_, List.getElem?_eq_getElem hi⟩
    refine ⟨cs, hE.more (h.el i x cs hx hcs) (fun b hb _ => hb.1), fun j u hu => ?_⟩
    have := World.ownsRow.cells h.row (g := g) rfl (i * sz + j) u (flat_at css h.sizes i cs hcs j u hu)
    rw [addr_M, Nat.zero_add] at this
    rw [Nat.zero_add]
    exact this
/-- One thing more. -/
theorem wpList_append_oq {ops : Array Oper} {rest : List Oper} {o : Oper} {a : Act} {Q : Exit → Act → World → Prop} (hgd : o.guard = none) (s x : Operand) (ts : TypeId)
    (ho : o.op = .call { callee := .builtin .append, args := #[s, x], argTypes := #[ts, ts] }) (hu : Tryz.prog.underlying ts = some (.slice t)) {z : Value} {bytes : Nat} (hinfo : (Tryz.prog.info? t).map (fun i => (i.zero, i.size, i.bytes)) = some (some z, sz, bytes))
    (hzs : z.cells.size = sz) (h0 : 0 < sz) (hby : bytes ≤ 1000) (hE : E.Ok sz) {g : Nat} (hs : a.eval s = v) (hx : a.eval x = .slice (some ⟨g, 0, none⟩) 1 1)
    (hot : OQ E sz t base T W v xs css) {y : α} {cs : Array Value} (hb : Blk W g t cs) (hcs : cs.size = sz) (h1 : ∀ u ∈ cs.toList, u.oneCell' = true) (hy : E (fun k => ¬ T k ∧ some k ≠ v.ownBlock) W y cs) (hn : xs.length ≤ 1000) (hbase : base ≤ W.heap.size) (hT : ∀ k, T k → k < W.heap.size)
    (h : ∀ v' W', OQ E sz t base T W' v' (xs ++ [y]) (css ++ [cs]) → W.grownBy W' v.ownBlock → wpList Tryz.prog ops Q rest (a.put o.dst v') W') : wpList Tryz.prog ops Q (o :: rest) a W := by
  obtain ⟨i0, hi, hz0, hz1, hz2⟩ := info_parts hinfo
  refine wpList_plain hgd fun K hK => ?_
  have hbb : (xs.length + 1) * bytes ≤ 140737488355328 := by
    have := Nat.mul_le_mul (show xs.length + 1 ≤ 1001 by omega) hby
    omega
  obtain ⟨v', W', hr, h2, h3, _, h5⟩ := run_append_own_at (P := Tryz.prog) W base ts o.type t i0 z sz bytes hu hi hz0 hz1 hz2 hzs h0 v xs.length (css.flatMap Array.toList) hot.row ⟨g, 0, none⟩ 1 1 cs.toList (by simp [hcs]) (fun j u hu => by
    rw [addr_M, Nat.zero_add, hb.cell j, ← hu]; simp) h1 (by unfold maxLen; omega) hbb hbase
  unfold Oper.wp execOp
  simp only [ho, resolve, invoke, builtin, Sem.run_bind, Sem.run_pure, Result.andThen_ok, List.map_toArray, List.map_cons, List.map_nil, hs, hx, hr]
  have hrow : ∀ k, v.ownBlock = some k → base ≤ k ∧ k < W.heap.size := fun k hk => World.ownsRow.lt hot.row k hk
  have step : ∀ {x : α} {cs : Array Value}, E (fun k => ¬ T k ∧ some k ≠ v.ownBlock) W x cs → E (fun k => ¬ T k ∧ some k ≠ v'.ownBlock) W' x cs := fun {x cs} he => by
    have e1 := hE.more (S' := fun k => (¬ T k ∧ some k ≠ v'.ownBlock) ∧ some k ≠ v.ownBlock) he (fun b hb hl => ⟨⟨hb.1, fun e => by
      rcases h5 with h5 | h5
      · exact hb.2 (e.trans h5)
      · rw [h5] at e; injection e with e; omega⟩, hb.2⟩)
    exact hE.more (hE.kept e1 (KeptS.grown h3 (fun b hb => hb.2))) (fun b hb _ => hb.1)
  refine hK _ _ (h v' W' ⟨?_, by rw [List.length_append, List.length_append, hot.len]; rfl, fun c hc => ?_, fun i x c hx hc => ?_, fun k hk => ?_⟩ h3)
  · rw [List.length_append, List.flatMap_append]
    simpa using h2
  · rcases List.mem_append.1 hc with hc | hc
    · exact hot.sizes c hc
    · obtain rfl := List.mem_singleton.1 hc
      exact hcs
  · rcases Nat.lt_or_ge i xs.length with hil | hil
    · rw [List.getElem?_append_left hil] at hx
      rw [List.getElem?_append_left (by rw [hot.len]; exact hil)] at hc
      exact step (hot.el i x c hx hc)
    · have hi2 : i = xs.length := by
        have := (List.getElem?_eq_some_iff.1 hx).1
        rw [List.length_append, List.length_singleton] at this
        omega
      subst hi2
      rw [List.getElem?_append_right (Nat.le_refl _), Nat.sub_self] at hx
      rw [← hot.len, List.getElem?_append_right (Nat.le_refl _), Nat.sub_self] at hc
      simp only [List.getElem?_cons_zero, Option.some.injEq] at hx hc
      subst hx hc
      exact step hy
  · rcases h5 with h5 | h5
    · exact hot.ap k (h5.symm.trans hk)
    · intro hTk
      have := hT k hTk
      rw [h5] at hk
      injection hk with hk
      omega
end

/-! ### What few makes -/
def cutNod (n : Nod) : Nod := { n with next := n.next.take 10 }
def cutIns (x : Ins) : Ins := { x with l := x.l.take 10 }
def cutTpl (t : Tpl) : Tpl := ⟨t.params.take 10, (t.code.take 30).map cutIns, []⟩
def cutSta (s : Sta) : Sta := { s with args := s.args.take 10 }
def fewM (m : Mo) : Mo := ⟨(m.nodes.take 70).map cutNod, (m.tpls.take 18).map cutTpl, m.chans.take 18, (m.starts.take 10).map cutSta, [], [], [], []⟩
theorem fit_few {m : Mo} (h1 : ∀ t ∈ m.tpls, ∀ x ∈ t.code, Whole x.a) (h2 : ∀ s ∈ m.starts, ∀ a ∈ s.args, Whole a.word) : (fewM m).Fit := by
  refine ⟨fun t ht x hx => ?_, fun s hs a ha => ?_⟩
  · obtain ⟨t0, h0, rfl⟩ := List.mem_map.1 ht
    obtain ⟨x0, k0, rfl⟩ := List.mem_map.1 hx
    exact h1 t0 (List.mem_of_mem_take h0) x0 (List.mem_of_mem_take k0)
  · obtain ⟨s0, h0, rfl⟩ := List.mem_map.1 hs
    exact h2 s0 (List.mem_of_mem_take h0) a (List.mem_of_mem_take ha)
theorem take_snoc {α : Type} {l : List α} {i : Nat} {x : α} (h : l[i]? = some x) : l.take (i + 1) = l.take i ++ [x] := by
  obtain ⟨hi, rfl⟩ := List.getElem?_eq_some_iff.1 h
  exact List.take_succ_eq_append_getElem hi
theorem map_snoc {α β : Type} (f : α → β) {l : List α} {i : Nat} {x : α} (h : l[i]? = some x) : (l.take (i + 1)).map f = (l.take i).map f ++ [f x] := by
  rw [take_snoc h, List.map_append]; rfl
/-! ### As a list is made -/
theorem grown_ownM {w W W' : World} {v : Value} (h : w.grownBy W none) (hr : ∀ g, v.ownBlock = some g → w.heap.size ≤ g) (hg : W.grownBy W' v.ownBlock) : w.grownBy W' none := by
  cases hb : v.ownBlock with
  | none => rw [hb] at hg; exact only_trans h hg
  | some g => rw [hb] at hg; exact only_new h hg (hr g hb)
/-- A list that is made, thing by thing, in a box's cell: since wK the box alone was turned. -/
structure FQ {α : Type} (E : Enc α) (sz : Nat) (t ty : TypeId) (N : Nat) (w wK : World) (bo : Nat) (c : Array Value) (v : Value) (xs : List α) (css : List (Array Value)) (W : World) : Prop where
  hN : N ≤ w.heap.size
  ht : Turn (fun k => k = bo) wK W
  g : w.grownBy W none
  gk : w.grownBy wK none
  hb : w.heap.size ≤ bo
  lt : bo < wK.heap.size
  o : Blk W bo ty c
  q : OQ E sz t wK.heap.size (fun k => N ≤ k ∧ k < wK.heap.size) W v xs css
section
variable {α : Type} {E : Enc α} {sz bo N : Nat} {t ty : TypeId} {w wK W W1 W2 : World} {c : Array Value} {v : Value} {xs : List α} {css : List (Array Value)}
theorem FQ.start (hN : N ≤ w.heap.size) (h : w.grownBy wK none) (hb : w.heap.size ≤ bo) (ho : Blk wK bo ty c) : FQ E sz t ty N w wK bo c (.slice none 0 0) [] [] wK :=
  ⟨hN, ⟨rfl, rfl, rfl, Nat.le_refl _, fun _ _ _ => rfl⟩, h, h, hb, ho.lt, ho, OQ.nil_ _ _ _ _ _ _⟩
theorem FQ.keep (hE : E.Ok sz) (h : FQ E sz t ty N w wK bo c v xs css W) (hg : W.grownBy W1 none) : FQ E sz t ty N w wK bo c v xs css W1 :=
  ⟨h.hN, h.ht.then_ (Turn.none_ hg) (fun _ _ hk => hk), only_trans h.g hg, h.gk, h.hb, h.lt, h.o.kept hg, h.q.none_ hE hg⟩
theorem FQ.own (h : FQ E sz t ty N w wK bo c v xs css W) : ∀ k, v.ownBlock = some k → wK.heap.size ≤ k := fun k hk => (World.ownsRow.lt h.q.row k hk).1
theorem FQ.size (h : FQ E sz t ty N w wK bo c v xs css W) : wK.heap.size ≤ W.heap.size := h.ht.size
/-- What lay in memory lies there, far from what is made. -/
theorem FQ.old {β : Type} {F : Enc β} {s2 : Nat} (hF : F.Ok s2) (h0 : 0 < s2) (h : FQ E sz t ty N w wK bo c v xs css W) {u : Value} {ys : List β} (hl : ListA F s2 (fun b => b < N) w u ys) :
    ListA F s2 (fun k => ¬ (N ≤ k ∧ k < wK.heap.size) ∧ some k ≠ v.ownBlock) W u ys :=
  (hl.kept hF (KeptS.none_ h.g)).more hF h0 fun b hb _ => ⟨fun e => by
    have hb' : b < N := hb
    omega, fun e => by
    have := h.own b e.symm
    have := h.gk.size
    have := h.hN
    have hb' : b < N := hb
    omega⟩
/-- One thing more. -/
theorem FQ.next (hE : E.Ok sz) (h : FQ E sz t ty N w wK bo c v xs css W) (hg : W.grownBy W1 none) {v2 : Value} {ys : List α} {dss : List (Array Value)} (hot : OQ E sz t wK.heap.size (fun k => N ≤ k ∧ k < wK.heap.size) W2 v2 ys dss) (hgr : W1.grownBy W2 v.ownBlock) (j : Nat) :
    Blk W2 bo ty c ∧ FQ E sz t ty N w wK bo (c.setIfInBounds j v2) v2 ys dss (W2.setCell ⟨bo, j, none⟩ v2) := by
  have hW1 := h.keep hE hg
  have hb2 : Blk W2 bo ty c := hW1.o.grown hgr (fun e => by
    have := hW1.own bo e.symm
    have := h.lt
    omega)
  have hset : W2.grownBy (W2.setCell ⟨bo, j, none⟩ v2) (some bo) := only_setCell (only_refl _ _) rfl _
  refine ⟨hb2, h.hN, ?_, ?_, h.gk, h.hb, h.lt, hb2.set_ j v2, ?_⟩
  · have t1 : Turn (fun k => k = bo) wK W2 := by
      refine ⟨hgr.os.trans hW1.ht.os, hgr.tape.trans hW1.ht.tape, hgr.output.trans hW1.ht.output, Nat.le_trans hW1.ht.size hgr.size, fun i hi hn => ?_⟩
      have hi1 : i < W1.heap.size := Nat.lt_of_lt_of_le hi hW1.ht.size
      rw [hgr.block i hi1 (fun e => by
        have := hW1.own i e.symm
        omega)]
      exact hW1.ht.block i hi hn
    exact t1.then_ (Turn.of_only hset (fun k e => by injection e with e; exact e.symm)) (fun _ _ hk => hk)
  · have g2 : w.grownBy W2 none := grown_ownM hW1.g (fun k e => by
      have := hW1.own k e
      have := h.gk.size
      omega) hgr
    exact only_new g2 hset h.hb
  · exact hot.turn hE (Turn.of_only hset (S := fun k => N ≤ k ∧ k < wK.heap.size) (fun k e => by
      injection e with e
      subst e
      exact ⟨Nat.le_trans h.hN h.hb, h.lt⟩)) (fun _ _ hk => hk)
/-- What was made. -/
theorem FQ.done (hE : E.Ok sz) (h : FQ E sz t ty N w wK bo c v xs css W) : ListA E sz (fun k => ¬ (N ≤ k ∧ k < wK.heap.size)) W v xs := h.q.list hE
end
end Go.Proofs.YtohhojbeclbedaaGreatDoor

/- Texts joined for the claim's sake: MKnD, MKnF. -/
import Derived.Test.YtohhojbeclbedaaGreatDoorZMKnwRow32
import Derived.Test.YtohhojbeclbedaaGreatDoorZMKnwRow39
import Derived.Test.YtohhojbeclbedaaGreatDoorZMKnwRow21
import Derived.Test.YtohhojbeclbedaaGreatDoorZMKnwRow40
import Derived.Test.YtohhojbeclbedaaGreatDoorZMKnwRow38
namespace Go.Proofs.YtohhojbeclbedaaGreatDoor
open Go.RowKit

def nodesK : List Nod := [⟨1, 300, true, ⟨2, 1⟩, [⟨1, 0⟩]⟩, ⟨4, 4, false, ⟨0, 0⟩, [⟨2, 0⟩, ⟨3, 200⟩]⟩, ⟨0, 0, false, ⟨0, 0⟩, []⟩, ⟨5, 0, false, ⟨0, 0⟩, [⟨0, 5⟩]⟩, ⟨2, 0, false, ⟨0, 0⟩, [⟨0, 0⟩]⟩]
def tplK (l : List Int) : Tpl := ⟨[⟨false, ⟨0, 0⟩⟩, ⟨true, ⟨1, 130⟩⟩], [⟨1, -1, 0, 0, 0, []⟩, ⟨11, 0, 0, 0, 0, [0]⟩], l⟩
def startsK : List Sta := [⟨0, [⟨false, 64, 0⟩, ⟨true, 0, 1⟩]⟩]
/-- The statement's module. -/
def knownM : Mo := ⟨nodesK, [tplK []], [⟨1, 2⟩], startsK, [], [], [], []⟩
def typesK : List UInt8 := [5, 1, 172, 2, 1, 2, 1, 1, 0, 4, 4, 2, 2, 0, 3, 200, 1, 0, 5, 0, 5, 2, 0, 0, 0, 0]
def codeK : List UInt8 := [1, 2, 0, 1, 1, 130, 1, 2, 1, 1, 11, 0]
def bootK : List UInt8 := [1, 1, 2, 1, 0, 2, 0, 128, 1, 1, 1]
theorem read_known : readT 0 0 0 typesK codeK bootK = .ok ⟨nodesK, [tplK [8, 10]], [⟨1, 2⟩], startsK, [1, 9, 17, 18, 21], [1], [1], [4]⟩ := by kernel_rfl
theorem types_known : typesO knownM = some typesK := (mod_is read_known).ty
theorem tpls_known : tplsO knownM = some codeK := (mod_is read_known).tp
theorem boot_known : bootO knownM = some bootK := (mod_is read_known).bt
theorem put_of {m : Mo} {a b c : List UInt8} (ha : typesO m = some a) (hb : tplsO m = some b) (hc : bootO m = some c) (l : a.length ≤ 65536 ∧ b.length ≤ 65536 ∧ c.length ≤ 65536) : putP m = (joined a b c, 0) := by
  unfold putP
  rw [ha, hb, hc]
  show joinV _ _ _ = _
  unfold joinV
  rw [if_pos l]
theorem put_known : putP knownM = (joined typesK codeK bootK, 0) := put_of types_known tpls_known boot_known ⟨by decide, by decide, by decide⟩
theorem fit_known : knownM.Fit := by
  refine ⟨fun t ht x hx => ?_, fun s hs a ha => ?_⟩
  · obtain rfl := List.mem_singleton.1 ht
    simp only [tplK, List.mem_cons, List.not_mem_nil, or_false] at hx
    rcases hx with rfl | rfl <;> (show Whole _; unfold Whole; dsimp only; omega)
  · obtain rfl := List.mem_singleton.1 hs
    simp only [List.mem_cons, List.not_mem_nil, or_false] at ha
    rcases ha with rfl | rfl <;> (show Whole _; unfold Whole; dsimp only; omega)
/-- What is joined is read as what is laid. -/
theorem split_of (a b c : List UInt8) (ha : a.length ≤ 65536) (hb : b.length ≤ 65536) (hc : c.length ≤ 65536) {s : List UInt8} (hs : joined a b c = s) : SplitOk s (partsOf a b c) ∧
    ∀ f : Nat → Nat → Nat → List UInt8 → List UInt8 → List UInt8 → MR, f (partsOf a b c).p1 (partsOf a b c).p2 (partsOf a b c).p3 (cut s (partsOf a b c).p1 (partsOf a b c).n1) (cut s (partsOf a b c).p2 (partsOf a b c).n2) (cut s (partsOf a b c).p3 (partsOf a b c).n3) = f (partsOf a b c).p1 (partsOf a b c).p2 (partsOf a b c).p3 a b c := by
  obtain ⟨h1, h2, h3, h4⟩ := joined_ok a b c ha hb hc
  rw [hs] at h1 h2 h3 h4
  exact ⟨h1, fun f => by rw [h2, h3, h4]⟩
theorem read_at (p1 p2 p3 : Nat) : ∃ m', readT p1 p2 p3 typesK codeK bootK = .ok m' ∧ m'.nodes = knownM.nodes ∧ m'.tpls.map tplP = knownM.tpls.map tplP ∧ m'.chans = knownM.chans ∧ m'.starts = knownM.starts :=
  mod_at fit_known.code fit_known.args types_known tpls_known boot_known p1 p2 p3

theorem known_lists {l : List Tpl} (h : l.map tplP = knownM.tpls.map tplP) : l.length = 1 ∧ ∀ t ∈ l, ∀ x ∈ t.code, x.l.length ≤ 1000 := by
  refine ⟨by simpa [knownM] using congrArg List.length h, fun t ht x hx => ?_⟩
  have h1 : tplP t ∈ l.map tplP := List.mem_map_of_mem ht
  rw [h] at h1
  obtain ⟨u, hu, e⟩ := List.mem_map.1 h1
  obtain rfl := List.mem_singleton.1 hu
  have e2 : (tplK []).code = t.code := congrArg Prod.snd e
  rw [← e2] at hx
  simp only [tplK, List.mem_cons, List.not_mem_nil, or_false] at hx
  rcases hx with rfl | rfl <;> simp

/-! ### What can't be laid -/
def badK : List Nod := [⟨0, 1, false, ⟨0, 0⟩, []⟩, ⟨6, 0, false, ⟨0, 0⟩, []⟩, ⟨1, 0, false, ⟨0, 0⟩, []⟩, ⟨1, 1001, false, ⟨0, 0⟩, [⟨0, 0⟩]⟩, ⟨2, 0, false, ⟨1, 0⟩, [⟨0, 0⟩]⟩, ⟨3, 0, false, ⟨0, 0⟩, []⟩, ⟨3, 0, true, ⟨0, 0⟩, [⟨0, 0⟩]⟩, ⟨4, 0, false, ⟨0, 0⟩, List.replicate 9 ⟨0, 0⟩⟩,
  ⟨5, 0, false, ⟨0, 0⟩, []⟩, ⟨5, 1, false, ⟨0, 0⟩, [⟨0, 0⟩]⟩, ⟨0, 0, false, ⟨0, 0⟩, [⟨0, 0⟩]⟩, ⟨1, 0, false, ⟨0, 0⟩, [⟨64, 0⟩]⟩, ⟨1, 0, false, ⟨0, 0⟩, [⟨0, 1001⟩]⟩]
theorem bad_nodes : badK.map nodO = List.replicate 13 none := by kernel_rfl
def badA : List Arg := [⟨false, 0, 1⟩, ⟨true, 1, 0⟩, ⟨true, 0, 32⟩, ⟨true, 0, -1⟩]
theorem bad_args : badA.map argO = List.replicate 4 none := by kernel_rfl
def nodM (n : Nod) : Mo := ⟨[n], [], [], [], [], [], [], []⟩
def argM (a : Arg) : Mo := ⟨[], [], [], [⟨0, [a]⟩], [], [], [], []⟩
theorem list_none {α : Type} {g : α → Lay} {least most : Int} {l : List α} (h : allO g l = none) : listO g least most l = none := by
  unfold listO
  rw [h, cat_none, cat_none]
theorem one_none {α : Type} {g : α → Lay} {x : α} (h : g x = none) : allO g [x] = none := by
  show cat (g x) _ = none
  rw [h]; rfl
theorem put_nod {n : Nod} (h : n ∈ badK) : putP (nodM n) = ([], 2) := by
  have hn : nodO n = none := by
    have h1 : nodO n ∈ badK.map nodO := List.mem_map_of_mem h
    rw [bad_nodes] at h1
    exact List.eq_of_mem_replicate h1
  have ht : typesO (nodM n) = none := list_none (one_none hn)
  unfold putP
  rw [ht]
theorem put_arg {a : Arg} (h : a ∈ badA) : putP (argM a) = ([], 2) := by
  have hn : argO a = none := by
    have h1 : argO a ∈ badA.map argO := List.mem_map_of_mem h
    rw [bad_args] at h1
    exact List.eq_of_mem_replicate h1
  have ht : bootO (argM a) = none := by
    show cat (listO edgO 0 16 []) (listO staO 0 8 [⟨0, [a]⟩]) = none
    have h2 : staO ⟨0, [a]⟩ = none := by
      show cat (numO 0 15) (listO argO 0 8 [a]) = none
      rw [list_none (one_none hn), cat_none]
    rw [list_none (one_none h2), cat_none]
  unfold putP
  rw [ht]
  cases typesO (argM a) <;> cases tplsO (argM a) <;> rfl
theorem fit_nod (n : Nod) : (nodM n).Fit := ⟨fun t ht => (by cases ht), fun s hs => (by cases hs)⟩
theorem fit_arg {a : Arg} (h : a ∈ badA) : (argM a).Fit := by
  refine ⟨fun t ht => (by cases ht), fun s hs b hb => ?_⟩
  obtain rfl := List.mem_singleton.1 hs
  obtain rfl := List.mem_singleton.1 hb
  simp only [badA, List.mem_cons, List.not_mem_nil, or_false] at h
  rcases h with rfl | rfl | rfl | rfl <;> (show Whole _; unfold Whole; dsimp only; omega)
def zeroN (n : Nat) : List Nod := List.replicate n ⟨0, 0, false, ⟨0, 0⟩, []⟩
def manyM : Mo := ⟨zeroN 65, [], [], [], [], [], [], []⟩
def fullM : Mo := ⟨zeroN 64, [], List.replicate 16 ⟨0, 0⟩, List.replicate 8 ⟨0, []⟩, [], [], [], []⟩
def stM : Mo := ⟨[], [], [], [⟨16, []⟩], [], [], [], []⟩
def paM : Mo := ⟨[], [⟨[⟨false, ⟨1, 0⟩⟩], [⟨0, 0, 0, 0, 0, []⟩], []⟩], [], [], [], [], [], []⟩
def opM : Mo := ⟨[], [⟨[], [⟨25, 0, 0, 0, 0, []⟩], []⟩], [], [], [], [], [], []⟩
theorem put_many : putP manyM = ([], 2) := by
  have h : typesO manyM = none := by kernel_rfl
  unfold putP
  rw [h]
theorem put_st : putP stM = ([], 2) := by
  have h : bootO stM = none := by kernel_rfl
  unfold putP
  rw [h]
  cases typesO stM <;> cases tplsO stM <;> rfl
theorem put_pa : putP paM = ([], 2) := by
  have h : tplsO paM = none := by kernel_rfl
  unfold putP
  rw [h]
  cases typesO paM <;> rfl
theorem put_op : putP opM = ([], 2) := by
  have h : tplsO opM = none := by kernel_rfl
  unfold putP
  rw [h]
  cases typesO opM <;> rfl
theorem read_full : ∃ q0 q2 q3 : List Int, readT 0 0 0 (64 :: List.replicate 64 0) [0] ((16 :: List.replicate 32 0) ++ (8 :: List.replicate 16 0)) = .ok ⟨fullM.nodes, [], fullM.chans, fullM.starts, q0, [], q2, q3⟩ :=
  ⟨(List.range 64).map (fun i => ((i + 1 : Nat) : Int)), (List.range 16).map (fun i => ((2 * i + 1 : Nat) : Int)), (List.range 8).map (fun i => ((2 * i + 34 : Nat) : Int)), by kernel_rfl⟩
theorem put_full : (putP fullM).2 = 0 := by
  obtain ⟨q0, q2, q3, h⟩ := read_full
  have k := mod_is h
  rw [put_of (m := fullM) k.ty k.tp k.bt ⟨by simp, by simp, by simp⟩]
theorem fits {m : Mo} (h1 : ∀ t ∈ m.tpls, ∀ x ∈ t.code, x.a = 0) (h2 : ∀ s ∈ m.starts, s.args = []) : m.Fit :=
  ⟨fun t ht x hx => by rw [h1 t ht x hx]; unfold Whole; omega, fun s hs a ha => by rw [h2 s hs] at ha; cases ha⟩

theorem fit_many : manyM.Fit := fits (fun t ht => by cases ht) (fun s hs => by cases hs)
theorem fit_full : fullM.Fit := fits (fun t ht => by cases ht) (fun s hs => by rw [List.eq_of_mem_replicate hs])
theorem fit_st : stM.Fit := fits (fun t ht => by cases ht) (fun s hs => by obtain rfl := List.mem_singleton.1 hs; rfl)
theorem fit_pa : paM.Fit := fits (fun t ht x hx => by obtain rfl := List.mem_singleton.1 ht; obtain rfl := List.mem_singleton.1 hx; rfl) (fun s hs => by cases hs)
theorem fit_op : opM.Fit := fits (fun t ht x hx => by obtain rfl := List.mem_singleton.1 ht; obtain rfl := List.mem_singleton.1 hx; rfl) (fun s hs => by cases hs)

/-! ### What can't be read -/
theorem sevk_1 : sev 1 = [1] := sevl_1
theorem sevk_2 : sev 2 = [2] := by rw [sev_lt (by omega)]; rfl
theorem sevk_3 : sev 3 = [3] := by rw [sev_lt (by omega)]; rfl
theorem sevk_4 : sev 4 = [4] := by rw [sev_lt (by omega)]; rfl
theorem joined_1 : joined [1, 3, 0, 0] [0] [0, 0] = [67, 76, 81, 89, 1, 1, 4, 1, 3, 0, 0, 2, 1, 0, 3, 2, 0, 0] := by unfold joined sec; simp [hd5, sevk_4, sevk_1, sevk_2]
theorem joined_2 : joined [0] [1, 0, 0] [0, 0] = [67, 76, 81, 89, 1, 1, 1, 0, 2, 3, 1, 0, 0, 3, 2, 0, 0] := by unfold joined sec; simp [hd5, sevk_3, sevk_1, sevk_2]
theorem joined_3 : joined [0, 0] [0] [0, 0] = [67, 76, 81, 89, 1, 1, 2, 0, 0, 2, 1, 0, 3, 2, 0, 0] := by unfold joined sec; simp [hd5, sevk_1, sevk_2]
theorem joined_4 : joined [65] [0] [0, 0] = [67, 76, 81, 89, 1, 1, 1, 65, 2, 1, 0, 3, 2, 0, 0] := by unfold joined sec; simp [hd5, sevk_1, sevk_2]
theorem joined_5 : joined [0] [0] [0] = [67, 76, 81, 89, 1, 1, 1, 0, 2, 1, 0, 3, 1, 0] := by unfold joined sec; simp [hd5, sevk_1]
theorem flt_1 : readT (partsOf [1, 3, 0, 0] [0] [0, 0]).p1 (partsOf [1, 3, 0, 0] [0] [0, 0]).p2 (partsOf [1, 3, 0, 0] [0] [0, 0]).p3 [1, 3, 0, 0] [0] [0, 0] = .flt 2 10 := by
  have h : (partsOf [1, 3, 0, 0] [0] [0, 0]).p1 = 7 := by simp [partsOf, sevk_4]
  rw [h]; rfl
theorem flt_2 : readT (partsOf [0] [1, 0, 0] [0, 0]).p1 (partsOf [0] [1, 0, 0] [0, 0]).p2 (partsOf [0] [1, 0, 0] [0, 0]).p3 [0] [1, 0, 0] [0, 0] = .flt 2 12 := by
  have h : (partsOf [0] [1, 0, 0] [0, 0]).p2 = 10 := by simp [partsOf, sevk_1, sevk_3]
  rw [h]; rfl
theorem flt_3 : readT (partsOf [0, 0] [0] [0, 0]).p1 (partsOf [0, 0] [0] [0, 0]).p2 (partsOf [0, 0] [0] [0, 0]).p3 [0, 0] [0] [0, 0] = .flt 4 8 := by
  have h : (partsOf [0, 0] [0] [0, 0]).p1 = 7 := by simp [partsOf, sevk_2]
  rw [h]; rfl
theorem flt_4 : readT (partsOf [65] [0] [0, 0]).p1 (partsOf [65] [0] [0, 0]).p2 (partsOf [65] [0] [0, 0]).p3 [65] [0] [0, 0] = .flt 4 7 := by
  have h : (partsOf [65] [0] [0, 0]).p1 = 7 := by simp [partsOf, sevk_1]
  rw [h]; rfl
theorem flt_5 : readT (partsOf [0] [0] [0]).p1 (partsOf [0] [0] [0]).p2 (partsOf [0] [0] [0]).p3 [0] [0] [0] = .flt 3 14 := by
  have h : (partsOf [0] [0] [0]).p3 = 13 := by simp [partsOf, sevk_1]
  rw [h]; rfl
end Go.Proofs.YtohhojbeclbedaaGreatDoor

namespace Go.Proofs.YtohhojbeclbedaaGreatDoor
open Go.RowKit

theorem put_many_any (W : World) (g : Nat) (hb : Blk W g 65 (rowZ #[.int .i64 0, .int .i64 0, .bool false, .int .i64 0, .int .i64 0, .slice none 0 0] 65)) : Calls Tryz.prog 9 #[.agg #[.slice (some ⟨g, 0, none⟩) 65 65, .slice none 0 0, .slice none 0 0, .slice none 0 0, .slice none 0 0, .slice none 0 0, .slice none 0 0, .slice none 0 0]] W fun e w' => e = .returned (.tuple #[.string ⟨#[]⟩, .int .i64 2]) ∧ W.grownBy w' none := by
  have hl : ListA NodE 6 (fun k => k < W.heap.size) W (.slice (some ⟨g, 0, none⟩) 65 65) manyM.nodes := ListA.zeroB (E := NodE) (sz := 6) (x := (⟨0, 0, false, ⟨0, 0⟩, []⟩ : Nod)) 65 (by decide) hb rfl ⟨_, rfl, ListA.nil_ _ _⟩
  refine (mput_any manyM _ _ _ _ _ _ _ _ _ _ _ _ _ _ _ _ _ _ _ _ _ _ _ _ W ⟨hl, ListA.nil_ _ _, ListA.nil_ _ _, ListA.nil_ _ _⟩ fit_many).mono fun e w' h => ⟨?_, h.2⟩
  rw [h.1]
  unfold putV
  rw [put_many]
theorem put_full_any (W : World) (g1 g2 g3 : Nat) (h1 : Blk W g1 65 (rowZ #[.int .i64 0, .int .i64 0, .bool false, .int .i64 0, .int .i64 0, .slice none 0 0] 64)) (h2 : Blk W g2 67 (rowZ #[.int .i64 0, .int .i64 0] 16)) (h3 : Blk W g3 74 (rowZ #[.int .i64 0, .slice none 0 0] 8)) (t5 : List UInt8) (ht : (putP fullM).1 = t5) :
    Calls Tryz.prog 9 #[.agg #[.slice (some ⟨g1, 0, none⟩) 64 64, .slice none 0 0, .slice (some ⟨g2, 0, none⟩) 16 16, .slice (some ⟨g3, 0, none⟩) 8 8, .slice none 0 0, .slice none 0 0, .slice none 0 0, .slice none 0 0]] W fun e w' => e = .returned (.tuple #[.string ⟨t5.toArray⟩, .int .i64 0]) ∧ W.grownBy w' none := by
  have l1 : ListA NodE 6 (fun k => k < W.heap.size) W (.slice (some ⟨g1, 0, none⟩) 64 64) fullM.nodes := ListA.zeroB (E := NodE) (sz := 6) (x := (⟨0, 0, false, ⟨0, 0⟩, []⟩ : Nod)) 64 (by decide) h1 rfl ⟨_, rfl, ListA.nil_ _ _⟩
  have l2 : ListA EdgE 2 (fun k => k < W.heap.size) W (.slice (some ⟨g2, 0, none⟩) 16 16) fullM.chans := ListA.zeroB (E := EdgE) (sz := 2) (x := (⟨0, 0⟩ : Edg)) 16 (by decide) h2 rfl rfl
  have l3 : ListA StaE 2 (fun k => k < W.heap.size) W (.slice (some ⟨g3, 0, none⟩) 8 8) fullM.starts := ListA.zeroB (E := StaE) (sz := 2) (x := (⟨0, []⟩ : Sta)) 8 (by decide) h3 rfl ⟨_, rfl, ListA.nil_ _ _⟩
  refine (mput_any fullM _ _ _ _ _ _ _ _ _ _ _ _ _ _ _ _ _ _ _ _ _ _ _ _ W ⟨l1, ListA.nil_ _ _, l2, l3⟩ fit_full).mono fun e w' h => ⟨?_, h.2⟩
  rw [h.1]
  unfold putV
  rw [put_full, ht]
theorem put_st_any (W : World) (g : Nat) (hb : Blk W g 74 #[.int .i64 16, .slice none 0 0]) : Calls Tryz.prog 9 #[.agg #[.slice none 0 0, .slice none 0 0, .slice none 0 0, .slice (some ⟨g, 0, none⟩) 1 1, .slice none 0 0, .slice none 0 0, .slice none 0 0, .slice none 0 0]] W fun e w' => e = .returned (.tuple #[.string ⟨#[]⟩, .int .i64 2]) ∧ W.grownBy w' none := by
  refine (mput_any stM _ _ _ _ _ _ _ _ _ _ _ _ _ _ _ _ _ _ _ _ _ _ _ _ W ⟨ListA.nil_ _ _, ListA.nil_ _ _, ListA.nil_ _ _, ListA.blkB hb ⟨_, rfl, ListA.nil_ _ _⟩⟩ fit_st).mono fun e w' h => ⟨?_, h.2⟩
  rw [h.1]
  unfold putV
  rw [put_st]
theorem put_pa_any (W : World) (gp gc gt : Nat) (hp : Blk W gp 69 #[.bool false, .int .i64 1, .int .i64 0]) (hc : Blk W gc 52 #[.int .i64 0, .int .i64 0, .int .i64 0, .int .i64 0, .int .i64 0, .slice none 0 0]) (ht : Blk W gt 50 #[.slice (some ⟨gp, 0, none⟩) 1 1, .slice (some ⟨gc, 0, none⟩) 1 1, .slice none 0 0]) :
    Calls Tryz.prog 9 #[.agg #[.slice none 0 0, .slice (some ⟨gt, 0, none⟩) 1 1, .slice none 0 0, .slice none 0 0, .slice none 0 0, .slice none 0 0, .slice none 0 0, .slice none 0 0]] W fun e w' => e = .returned (.tuple #[.string ⟨#[]⟩, .int .i64 2]) ∧ W.grownBy w' none := by
  have l1 : ListA ParE 3 (fun k => k < W.heap.size) W (.slice (some ⟨gp, 0, none⟩) 1 1) [⟨false, ⟨1, 0⟩⟩] := ListA.blkB hp rfl
  have l2 : ListA InsE 6 (fun k => k < W.heap.size) W (.slice (some ⟨gc, 0, none⟩) 1 1) [⟨0, 0, 0, 0, 0, []⟩] := ListA.blkB hc ⟨_, rfl, ⟨none, 0, rfl, fun h => absurd rfl h⟩⟩
  refine (mput_any paM _ _ _ _ _ _ _ _ _ _ _ _ _ _ _ _ _ _ _ _ _ _ _ _ W ⟨ListA.nil_ _ _, ListA.blkB ht ⟨_, _, _, rfl, l1, l2, ListA.nil_ _ _⟩, ListA.nil_ _ _, ListA.nil_ _ _⟩ fit_pa).mono fun e w' h => ⟨?_, h.2⟩
  rw [h.1]
  unfold putV
  rw [put_pa]
theorem put_op_any (W : World) (gc gt : Nat) (hc : Blk W gc 52 #[.int .i64 25, .int .i64 0, .int .i64 0, .int .i64 0, .int .i64 0, .slice none 0 0]) (ht : Blk W gt 50 #[.slice none 0 0, .slice (some ⟨gc, 0, none⟩) 1 1, .slice none 0 0]) :
    Calls Tryz.prog 9 #[.agg #[.slice none 0 0, .slice (some ⟨gt, 0, none⟩) 1 1, .slice none 0 0, .slice none 0 0, .slice none 0 0, .slice none 0 0, .slice none 0 0, .slice none 0 0]] W fun e w' => e = .returned (.tuple #[.string ⟨#[]⟩, .int .i64 2]) ∧ W.grownBy w' none := by
  have l2 : ListA InsE 6 (fun k => k < W.heap.size) W (.slice (some ⟨gc, 0, none⟩) 1 1) [⟨25, 0, 0, 0, 0, []⟩] := ListA.blkB hc ⟨_, rfl, ⟨none, 0, rfl, fun h => absurd rfl h⟩⟩
  refine (mput_any opM _ _ _ _ _ _ _ _ _ _ _ _ _ _ _ _ _ _ _ _ _ _ _ _ W ⟨ListA.nil_ _ _, ListA.blkB ht ⟨_, _, _, rfl, ListA.nil_ _ _, l2, ListA.nil_ _ _⟩, ListA.nil_ _ _, ListA.nil_ _ _⟩ fit_op).mono fun e w' h => ⟨?_, h.2⟩
  rw [h.1]
  unfold putV
  rw [put_op]
end Go.Proofs.YtohhojbeclbedaaGreatDoor

/- The document's flow (colloquyref10): laws for its walk. -/
import Derived.Test.YtgdoklbcmgkllaaBRCt
import Derived.Test.YtgdoklbcmgkllaaBNum
namespace Go.Proofs.Ytgdoklbcmgkllaa
open Go.RowKit

/-- One row more. -/
theorem wpList_append_row {ops : Array Oper} {rest : List Oper} {o : Oper} {a : Act} {W : World} {Q : Exit → Act → World → Prop} (hgd : o.guard = none) (s x : Operand)
    (ho : o.op = .call { callee := .builtin .append, args := #[s, x], argTypes := #[25, 25] })
    {base : Nat} {v : Value} {nx : List (List Int)} {lvs : List Value} {A1 : Option Addr} {n1 c1 : Nat} {l : List Int} {g : Nat} (hs : a.eval s = v) (hx : a.eval x = .slice (some ⟨g, 0, none⟩) 1 1)
    (hot : NO base W v nx lvs) (hb : Blk W g 24 #[.slice A1 n1 c1]) (hl : IB W (.slice A1 n1 c1) l) (hn : nx.length ≤ 1000000) (hbase : base ≤ W.heap.size)
    (h : ∀ v' W', NO base W' v' (nx ++ [l]) (lvs ++ [.slice A1 n1 c1]) → W.grownBy W' v.ownBlock → wpList Try.prog ops Q rest (a.put o.dst v') W') : wpList Try.prog ops Q (o :: rest) a W := by
  obtain ⟨i0, hi, hz0, hz1, hz2⟩ := info_parts rowB_info
  refine wpList_plain hgd fun K hK => ?_
  obtain ⟨v', W', hr, h2, h3, _⟩ := run_append_own (P := Try.prog) W base 25 o.type 24 i0 _ 1 24 Try.underlying25 hi hz0 hz1 hz2 rfl (by decide) v nx.length lvs hot.row ⟨g, 0, none⟩ 1 1 [.slice A1 n1 c1] rfl (fun j u hu => by
    rw [addr_B, Nat.zero_add, hb.cell j, ← hu]; simp) (fun u hu => by obtain rfl := List.mem_singleton.1 hu; rfl) (by unfold maxLen; omega) (by omega) hbase
  unfold Oper.wp execOp
  simp only [ho, resolve, invoke, builtin, Sem.run_bind, Sem.run_pure, Result.andThen_ok, List.map_toArray, List.map_cons, List.map_nil, hs, hx, hr]
  have hrr : ∀ g, v.ownBlock = some g → ∃ t cs, Blk W g t cs ∧ t ≠ 3 := fun g e => by
    obtain ⟨_, cs', hb'⟩ := own_rowB hot.row g e
    exact ⟨_, cs', hb', by decide⟩
  refine hK _ _ (h v' W' ⟨by rw [List.length_append]; exact h2, fun i lv l' h4 h5 => ?_, by rw [List.length_append, List.length_append, hot.len]; rfl, fun lv hm => ?_⟩ h3)
  · rcases Nat.lt_or_ge i lvs.length with hi2 | hi2
    · rw [List.getElem?_append_left hi2] at h4
      rw [List.getElem?_append_left (by rw [← hot.len]; exact hi2)] at h5
      exact (hot.inn i lv l' h4 h5).row h3 hrr
    · rw [List.getElem?_append_right hi2] at h4
      rw [List.getElem?_append_right (by rw [← hot.len]; exact hi2)] at h5
      rw [hot.len] at h4
      cases hk : i - nx.length with
      | zero =>
        rw [hk] at h4 h5
        simp at h4 h5
        subst h4
        subst h5
        exact hl.row h3 hrr
      | succ m =>
        rw [hk] at h4
        simp at h4
  · rcases List.mem_append.1 hm with h4 | h4
    · exact hot.one lv h4
    · obtain rfl := List.mem_singleton.1 h4
      exact ⟨_, _, _, rfl⟩
theorem make_ints (n : Nat) (hn : n ≤ 1000) (W : World) : (Instr.makeSlice 24 (.int .i64 (n : Int)) (.int .i64 (n : Int))).run Try.prog W = .ok (.slice (some ⟨W.heap.size, 0, none⟩) n n) (W.alloc (.cells (Array.replicate n (.int .i64 0)) 3)) := by
  obtain ⟨i0, hi, hz0, hz1, hz2⟩ := info_parts intB_info
  have hr := run_make (P := Try.prog) W 24 3 i0 _ Try.underlying24 hi hz0 .i64 .i64 (n : Int) (n : Int) (by omega) (Int.le_refl _) (by rw [hz2]; omega) (by omega)
  simp only [Int.toNat_natCast] at hr
  rw [hz1, made_oneB _ rfl] at hr
  exact hr
/-- The numbers of the instructions, as far as they are filled. -/
def Nums (cs : List Bi) (k : Nat) (ns : Array Value) : Prop := ns.size = cs.length ∧ (∀ i, i < cs.length → ∃ z : Int, ns[i]? = some (.int .i64 z)) ∧ ∀ i, i < k → ns[i]? = some (.int .i64 ((numB cs i : Nat) : Int))
theorem Nums.zero (cs : List Bi) : Nums cs 0 (Array.replicate cs.length (.int .i64 0)) := ⟨by simp, fun i hi => ⟨0, by simp [hi]⟩, fun i hi => by omega⟩
theorem Nums.next {cs : List Bi} {k : Nat} {ns : Array Value} (h : Nums cs k ns) (hk : k < cs.length) : Nums cs (k + 1) (ns.setIfInBounds k (.int .i64 ((numB cs k : Nat) : Int))) := by
  obtain ⟨h1, h2, h3⟩ := h
  refine ⟨by simpa using h1, fun i hi => ?_, fun i hi => ?_⟩
  · by_cases e : k = i
    · subst e; exact ⟨((numB cs k : Nat) : Int), by simp [h1, hi]⟩
    · rw [Array.getElem?_setIfInBounds_ne e]; exact h2 i hi
  · by_cases e : k = i
    · subst e; simp [h1, hk]
    · rw [Array.getElem?_setIfInBounds_ne e]; exact h3 i (by omega)
/-- Blocks that begin up to here. -/
def frontL (cs : List Bi) (k : Nat) : List Nat := (List.range k).filter (beginB cs)
theorem front_next (cs : List Bi) (k : Nat) : frontL cs (k + 1) = frontL cs k ++ (if beginB cs k then [k] else []) := starts_step cs k
theorem front_all (cs : List Bi) : frontL cs cs.length = startsL cs := rfl
theorem front_pos (cs : List Bi) (k : Nat) : 0 < (frontL cs (k + 1)).length := by
  have : 0 ∈ frontL cs (k + 1) := List.mem_filter.2 ⟨List.mem_range.2 (by omega), by unfold beginB; simp⟩
  exact List.length_pos_of_mem this
theorem front_num {cs : List Bi} {k : Nat} (hk : k < cs.length) : ((frontL cs (k + 1)).length : Int) - 1 = ((numB cs k : Nat) : Int) := by
  have := front_pos cs k
  rw [num_front hk]
  show _ = (((frontL cs (k + 1)).length - 1 : Nat) : Int)
  omega
theorem front_len (cs : List Bi) (k : Nat) : (frontL cs k).length ≤ k := by
  unfold frontL
  have := List.length_filter_le (beginB cs) (List.range k)
  rwa [List.length_range] at this
/-- What stands as Starts grows and the numbers are filled. -/
structure FW (w : World) (cs : List Bi) (Bo Bf Bn k m : Nat) (sv : Value) (W : World) : Prop where
  g : w.grownBy W none
  lo : w.heap.size ≤ Bo
  l1 : Bo < Bf
  l2 : Bf < Bn
  bo : Blk W Bo 27 #[.slice none 0 0, .slice none 0 0]
  bf : Blk W Bf 27 #[sv, .slice none 0 0]
  bn : ∃ ns, Blk W Bn 3 ns ∧ Nums cs k ns
  ow : BOwn (Bn + 1) W sv (intsN (frontL cs m))
section
variable {w X Y : World} {cs : List Bi} {Bo Bf Bn k m : Nat} {sv v' : Value}
theorem FW.kept (h : FW w cs Bo Bf Bn k m sv X) (hg : X.grownBy Y none) : FW w cs Bo Bf Bn k m sv Y := by
  obtain ⟨ns, h1, h2⟩ := h.bn
  exact ⟨only_trans h.g hg, h.lo, h.l1, h.l2, h.bo.kept hg, h.bf.kept hg, ⟨ns, h1.kept hg, h2⟩, h.ow.none_ hg⟩
theorem FW.far (h : FW w cs Bo Bf Bn k m sv X) {b : Nat} {t : TypeId} {c : Array Value} (hb : Blk X b t c) (hl : b ≤ Bn) (hg : X.grownBy Y sv.ownBlock) : Blk Y b t c := hb.grown hg fun e => by
  have := (World.ownsRow.lt h.ow _ e.symm).1
  omega
theorem FW.push (h : FW w cs Bo Bf Bn k m sv X) (hg : X.grownBy Y sv.ownBlock) (ho : BOwn (Bn + 1) Y v' (intsN (frontL cs (m + 1)))) : FW w cs Bo Bf Bn k (m + 1) v' (Y.setCell ⟨Bf, 0, none⟩ v') := by
  obtain ⟨ns, h1, h2⟩ := h.bn
  have l0 := h.lo
  have l1 := h.l1
  have l2 := h.l2
  exact ⟨only_setNew (grown_ownB h.g (fun g e => by have := (World.ownsRow.lt h.ow g e).1; omega) hg) (by show w.heap.size ≤ Bf; omega) _, h.lo, h.l1, h.l2, (h.far h.bo (by omega) hg).far (by show Bo ≠ Bf; omega) _, (h.far h.bf (by omega) hg).set_ 0 v',
    ⟨ns, (h.far h1 (Nat.le_refl _) hg).far (by show Bn ≠ Bf; omega) _, h2⟩, ho.kept (only_setCell (p := ⟨Bf, 0, none⟩) (only_refl _ _) rfl _) (.inr fun e => by have := (World.ownsRow.lt ho Bf e).1; omega)⟩
theorem FW.num (h : FW w cs Bo Bf Bn k m sv X) (hk : k < cs.length) : FW w cs Bo Bf Bn (k + 1) m sv (X.setCell ⟨Bn, k, none⟩ (.int .i64 ((numB cs k : Nat) : Int))) := by
  obtain ⟨ns, h1, h2⟩ := h.bn
  have l0 := h.lo
  have l1 := h.l1
  have l2 := h.l2
  exact ⟨only_setNew h.g (by show w.heap.size ≤ Bn; omega) _, h.lo, h.l1, h.l2, h.bo.far (by show Bo ≠ Bn; omega) _, h.bf.far (by show Bf ≠ Bn; omega) _, ⟨_, h1.set_ k _, h2.next hk⟩,
    h.ow.kept (only_setCell (p := ⟨Bn, k, none⟩) (only_refl _ _) rfl _) (.inr fun e => by have := (World.ownsRow.lt h.ow Bn e).1; omega)⟩
theorem FW.skip (h : FW w cs Bo Bf Bn k m sv X) (hb : beginB cs m = false) : FW w cs Bo Bf Bn k (m + 1) sv X :=
  ⟨h.g, h.lo, h.l1, h.l2, h.bo, h.bf, h.bn, by rw [front_next, hb]; simpa using h.ow⟩
end
/-- What stands as the rows of Next grow. -/
structure FN (W0 : World) (Bo Bf Bn : Nat) (cs : List Bi) (ns : Array Value) (sv : Value) (b : Nat) (nv : Value) (W : World) : Prop where
  g : W0.grownBy W none
  bo : Blk W Bo 27 #[.slice none 0 0, .slice none 0 0]
  bf : Blk W Bf 27 #[sv, nv]
  bn : Blk W Bn 3 ns
  st : IB W sv (intsN (startsL cs))
  nx : ∃ lvs, NO (Bn + 1) W nv (((List.range b).map (nextB cs)).map intsN) lvs
theorem FN.kept {W0 X Y : World} {Bo Bf Bn b : Nat} {cs : List Bi} {ns : Array Value} {sv nv : Value} (h : FN W0 Bo Bf Bn cs ns sv b nv X) (hg : X.grownBy Y none) : FN W0 Bo Bf Bn cs ns sv b nv Y := by
  obtain ⟨lvs, hn⟩ := h.nx
  exact ⟨only_trans h.g hg, h.bo.kept hg, h.bf.kept hg, h.bn.kept hg, h.st.kept hg, lvs, hn.none_ hg⟩
theorem FN.push {w X Y : World} {Bo Bf Bn b : Nat} {cs : List Bi} {ns : Array Value} {sv nv nv' : Value} {lvs lvs' : List Value} (h : FN w Bo Bf Bn cs ns sv b nv X) (l0 : w.heap.size ≤ Bo) (l1 : Bo < Bf) (l2 : Bf < Bn) (hno : NO (Bn + 1) X nv (((List.range b).map (nextB cs)).map intsN) lvs)
    (hg : X.grownBy Y nv.ownBlock) (ho : NO (Bn + 1) Y nv' (((List.range (b + 1)).map (nextB cs)).map intsN) lvs') : FN w Bo Bf Bn cs ns sv (b + 1) nv' (Y.setCell ⟨Bf, 1, none⟩ nv') := by
  have hrow : ∀ g, nv.ownBlock = some g → Bn + 1 ≤ g ∧ ∃ cs', Blk X g 24 cs' := fun g e => own_rowB hno.row g e
  have hk : ∀ {k : Nat} {t : TypeId} {c : Array Value}, Blk X k t c → k ≤ Bn → Blk Y k t c := fun {k t c} hb hl => hb.grown hg fun e => by have := (hrow k e.symm).1; omega
  have b1 := hk h.bf (by omega)
  have hs : Y.grownBy (Y.setCell ⟨Bf, 1, none⟩ nv') (some Bf) := only_setCell (p := ⟨Bf, 1, none⟩) (only_refl _ _) rfl _
  refine ⟨only_setNew (grown_ownB h.g (fun g e => by have := (hrow g e).1; omega) hg) (by show w.heap.size ≤ Bf; omega) _, (hk h.bo (by omega)).far (by show Bo ≠ Bf; omega) _, b1.set_ 1 _, (hk h.bn (Nat.le_refl _)).far (by show Bn ≠ Bf; omega) _,
    (h.st.row hg (fun g e => by obtain ⟨_, cs', hb'⟩ := hrow g e; exact ⟨_, cs', hb', by decide⟩)).row hs (fun g e => by injection e with e; subst e; exact ⟨_, _, b1, by decide⟩), lvs', ?_⟩
  refine ⟨ho.row.kept hs (.inr fun e => ?_), fun i lv l e1 e2 => (ho.inn i lv l e1 e2).row hs (fun g e => by injection e with e; subst e; exact ⟨_, _, b1, by decide⟩), ho.len, ho.one⟩
  have := (World.ownsRow.lt ho.row Bf e).1
  omega
theorem rflow_results {W : World} {sv nv : Value} {B : Nat} {tmps : Array Value} (h2 : tmps.getD 2 undef = .pointer (some ⟨B, 0, none⟩)) (hb : Blk W B 27 #[sv, nv]) :
    (results Try.f14 tmps).run Try.prog W = .ok (.agg #[sv, nv]) W := by
  have h2' : tmps[2]?.getD undef = .pointer (some ⟨B, 0, none⟩) := by simpa using h2
  have c0 := hb.cell 0
  have c1 := hb.cell 1
  simp [results, Try.results14, h2', go_sem, c0, c1]
end Go.Proofs.Ytgdoklbcmgkllaa

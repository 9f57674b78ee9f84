/- Rows of numbers that a call has made of its own: one more, a whole slice more. -/
import Derived.Test.YtgdoklbcmgkllaaIMm
import Derived.LoopTactic
import Derived.Laws.AppendOwn
import Derived.Laws.OwnMore
import Derived.Deep.AppendSrc
import Derived.OwnWalk
namespace Go.Proofs.Ytgdoklbcmgkllaa
open Go.RowKit

theorem intB_info : (Try.prog.info? 3).map (fun i => (i.zero, i.size, i.bytes)) = some (some (.int .i64 0), 1, 8) := by kernel_rfl
theorem addr_B (b o j : Nat) : (⟨b, o, none⟩ : Addr).add j = ⟨b, o + j, none⟩ := by unfold Addr.add; split <;> simp_all
def zsV (zs : List Int) : List Value := zs.map fun z => .int .i64 z
theorem zsV_len (zs : List Int) : (zsV zs).length = zs.length := by simp [zsV]
theorem zsV_app (zs l : List Int) : zsV (zs ++ l) = zsV zs ++ zsV l := by simp [zsV]
theorem zsV_one {zs : List Int} : ∀ u ∈ zsV zs, u.oneCell' = true := fun u hu => by
  obtain ⟨z, _, rfl⟩ := List.mem_map.1 hu
  rfl
/-- A row of numbers of a call's own. -/
def BOwn (base : Nat) (W : World) (v : Value) (zs : List Int) : Prop := W.ownsRow base 3 1 v zs.length (zsV zs)
section
variable {base : Nat} {W W' : World} {v : Value} {zs : List Int}
theorem BOwn.nil_ (base : Nat) (W : World) : BOwn base W (.slice none 0 0) [] := World.ownsRow_nil _ _ _ _
/-- It reads as these numbers. -/
theorem BOwn.reads (h : BOwn base W v zs) : IntsA (fun b => base ≤ b ∧ b < W.heap.size) W v zs := by
  rcases h.2 with ⟨rfl, h0⟩ | ⟨g, cap, cur, rfl, _, _, _⟩
  · obtain rfl : zs = [] := List.length_eq_zero_iff.1 h0
    exact ⟨none, 0, rfl, fun hn => absurd rfl hn⟩
  · refine ⟨some ⟨g, 0, none⟩, cap, rfl, fun _ => ⟨g, 0, rfl, h.lt g rfl, fun i z hz => ?_⟩⟩
    have := h.cells (g := g) rfl i (.int .i64 z) (by unfold zsV; rw [List.getElem?_map, hz]; rfl)
    rwa [addr_B] at this
theorem BOwn.kept {row : Option Nat} (h : BOwn base W v zs) (hg : W.grownBy W' row) (hne : v.ownBlock = none ∨ v.ownBlock ≠ row) : BOwn base W' v zs := World.ownsRow.kept h hg hne
/-- What turns a call's own row alone turns nothing that was there. -/
theorem BOwn.only {w0 : World} (h : BOwn w0.heap.size W v zs) (hw : w0.grownBy W none) (hg : W.grownBy W' v.ownBlock) : w0.grownBy W' none := by
  cases hv : v.ownBlock with
  | none => rw [hv] at hg; exact only_trans hw hg
  | some g => rw [hv] at hg; exact only_new hw hg (World.ownsRow.lt h g hv).1
theorem BOwn.none_ (h : BOwn base W v zs) (hg : W.grownBy W' none) : BOwn base W' v zs := h.kept hg (by cases hv : v.ownBlock <;> simp)
end
/-- The last one taken away. -/
theorem BOwn.pop {base : Nat} {W : World} {A : Option Addr} {n c : Nat} {zs : List Int} {z : Int} (h : BOwn base W (.slice A n c) (zs ++ [z])) : BOwn base W (.slice A (n - 1) c) zs := by
  obtain ⟨h1, h2⟩ := h
  rcases h2 with ⟨_, h0⟩ | ⟨g, cap, cur, e, hb, ho, hn, hm, hs, hx⟩
  · simp at h0
  · injection e with e1 e2 e3
    subst e1
    subst e2
    subst e3
    refine ⟨by simp [zsV], .inr ⟨g, c, cur, by simp, hb, ho, by simp at hn; omega, hm, hs, ?_⟩⟩
    have hl : zs.length * 1 = zs.length := by omega
    have h3 := congrArg (List.take zs.length) hx
    rw [List.take_take, zsV_app] at h3
    rw [hl]
    have h4 : min zs.length ((zs ++ [z]).length * 1) = zs.length := by simp
    rw [h4, List.take_left' (by rw [zsV_len])] at h3
    exact h3
/-- A whole slice more. -/
theorem wpList_append_zs {ops : Array Oper} {rest : List Oper} {o : Oper} {a : Act} {W : World} {Q : Exit → Act → World → Prop} (hgd : o.guard = none) (s x : Operand)
    (ho : o.op = .call { callee := .builtin .append, args := #[s, x], argTypes := #[24, 24] })
    {base : Nat} {S : Nat → Prop} {v vv : Value} {zs l : List Int} (hs : a.eval s = v) (hx : a.eval x = vv)
    (hot : BOwn base W v zs) (hl : IntsA S W vv l) (hn : zs.length + l.length ≤ 1000000000000) (hbase : base ≤ W.heap.size)
    (h : ∀ v' W', BOwn base W' v' (zs ++ l) → W.grownBy W' v.ownBlock → wpList Try.prog ops Q rest (a.put o.dst v') W') : wpList Try.prog ops Q (o :: rest) a W := by
  obtain ⟨i0, hi, hz0, hz1, hz2⟩ := info_parts intB_info
  obtain ⟨A, c, rfl, hA⟩ := hl
  by_cases hl0 : l = []
  · subst hl0
    have hsrc : Src Try.prog i0.size 24 (.slice A 0 c) 0 [] W := by
      cases A with
      | none => exact Src.ofNil W Try.underlying24 c
      | some ad => exact Src.ofSlice W Try.underlying24 ad 0 c [] (by simp) (fun j u hu => by simp at hu) (fun u hu => by cases hu)
    have hr : (Builtin.append_ #[24, 24] o.type #[v, .slice A 0 c]).run Try.prog W = .ok v W := by
      rcases hot.2 with ⟨rfl, hp0⟩ | ⟨g, cap, cur, rfl, _, _, hc, _⟩
      · simp [Builtin.append_, run_underlying Try.underlying24, sizeOf, typeInfo, hi, hsrc.len, hsrc.cells]
      · have := run_append_room_src W 24 24 o.type 3 i0 Try.underlying24 hi g 0 zs.length cap (.slice A 0 c) 0 [] hsrc (by omega) (fun j hj => by simp at hj) (fun j hj => by simp at hj)
        rw [this]
        simp [World.setCells]
    refine wpList_plain hgd fun K hK => ?_
    unfold Oper.wp execOp
    simp only [ho, resolve, invoke, builtin, Sem.run_bind, Sem.run_pure, Result.andThen_ok, List.map_toArray, List.map_cons, List.map_nil, hs, hx, List.length_nil, hr]
    exact hK _ _ (h v W (by rw [List.append_nil]; exact hot) (only_weak (only_refl _ _) _))
  · obtain ⟨b, off, rfl, _, hc⟩ := hA hl0
    have hnews : ∀ j u, (zsV l)[j]? = some u → W.cell? ((⟨b, off, none⟩ : Addr).add j) = some u := fun j u hu => by
      unfold zsV at hu
      rw [List.getElem?_map] at hu
      obtain ⟨z, hz, rfl⟩ := Option.map_eq_some_iff.1 hu
      rw [addr_B]
      exact hc j z hz
    refine wpList_plain hgd fun K hK => ?_
    obtain ⟨v', W', hr, h2, h3, _⟩ := run_append_own (P := Try.prog) W base 24 o.type 3 i0 _ 1 8 Try.underlying24 hi hz0 hz1 hz2 rfl (by decide) v zs.length (zsV zs) hot ⟨b, off, none⟩ l.length c (zsV l) (by rw [zsV_len, Nat.mul_one]) hnews zsV_one (by unfold maxLen; omega) (by omega) hbase
    unfold Oper.wp execOp
    simp only [ho, resolve, invoke, builtin, Sem.run_bind, Sem.run_pure, Result.andThen_ok, List.map_toArray, List.map_cons, List.map_nil, hs, hx, hr]
    refine hK _ _ (h v' W' ?_ h3)
    unfold BOwn
    rw [List.length_append, zsV_app]; exact h2
/-- One more. -/
theorem wpList_append_z {ops : Array Oper} {rest : List Oper} {o : Oper} {a : Act} {W : World} {Q : Exit → Act → World → Prop} (hgd : o.guard = none) (s x : Operand)
    (ho : o.op = .call { callee := .builtin .append, args := #[s, x], argTypes := #[24, 24] })
    {base : Nat} {v : Value} {zs : List Int} {z : Int} {g : Nat} (hs : a.eval s = v) (hx : a.eval x = .slice (some ⟨g, 0, none⟩) 1 1)
    (hot : BOwn base W v zs) (hb : Blk W g 3 #[.int .i64 z]) (hn : zs.length ≤ 900000000000) (hbase : base ≤ W.heap.size)
    (h : ∀ v' W', BOwn base W' v' (zs ++ [z]) → W.grownBy W' v.ownBlock → wpList Try.prog ops Q rest (a.put o.dst v') W') : wpList Try.prog ops Q (o :: rest) a W :=
  wpList_append_zs (S := fun _ => True) hgd s x ho hs hx hot ⟨some ⟨g, 0, none⟩, 1, rfl, fun _ => ⟨g, 0, rfl, trivial, fun i y hy => by
    rw [Nat.zero_add, hb.cell i]
    cases i with
    | zero => simp at hy; subst hy; rfl
    | succ i => simp at hy⟩⟩ (by simp; omega) hbase h
end Go.Proofs.Ytgdoklbcmgkllaa

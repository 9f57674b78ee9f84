/- What more single operations answer, in a region that draws its order (the texts are written by a script of mine). No walk. -/
import Derived.Test.YtoklaajiajilhaaDoorOvs
namespace Go.Proofs.YtoklaajiajilhaaDoor
open Go.RowKit

section
variable {vals : List (Tmp × Value)} {w : World} {o : Oper}
theorem ov_move_c {c : Value} (ho : o.op = .move (.const c)) : OpVal Tryd.prog o vals w c := fun b W _ hr => by
  obtain ⟨dst, op, type, pos, after, guard⟩ := o
  dsimp only at ho
  subst ho
  exact .inl rfl
theorem ov_assign_c {c : Value} (ho : o.op = .assign (.const c)) : OpVal Tryd.prog o vals w c := fun b W _ hr => by
  obtain ⟨dst, op, type, pos, after, guard⟩ := o
  dsimp only at ho
  subst ho
  exact .inl rfl
/-- A pick whose test is known. -/
theorem ov_pick_tt {s t : Tmp} {v : Operand} {c : Value} (ho : o.op = .pick (.tmp s) (.tmp t) v) (hs : vals.lookup s = some (.bool true)) (ht : vals.lookup t = some c) : OpVal Tryd.prog o vals w c :=
  ov_pick_true ho hs fun b h => h t _ (by rw [ho]; simp [Op.operands]) ht
theorem ov_pick_tc {s : Tmp} {v : Operand} {c : Value} (ho : o.op = .pick (.tmp s) (.const c) v) (hs : vals.lookup s = some (.bool true)) : OpVal Tryd.prog o vals w c :=
  ov_pick_true ho hs fun _ _ => rfl
theorem ov_pick_ft {s t : Tmp} {u : Operand} {c : Value} (ho : o.op = .pick (.tmp s) u (.tmp t)) (hs : vals.lookup s = some (.bool false)) (ht : vals.lookup t = some c) : OpVal Tryd.prog o vals w c :=
  ov_pick_false ho hs fun b h => h t _ (by rw [ho]; simp [Op.operands]) ht
theorem ov_pick_fc {s : Tmp} {u : Operand} {c : Value} (ho : o.op = .pick (.tmp s) u (.const c)) (hs : vals.lookup s = some (.bool false)) : OpVal Tryd.prog o vals w c :=
  ov_pick_false ho hs fun _ _ => rfl
theorem ov_fld_Type0 {t : Tmp} {g off : Nat} (ho : o.op = .fieldAddr 24 (.tmp t) 0) (h0 : vals.lookup t = some (.pointer (some ⟨g, off, none⟩))) : OpVal Tryd.prog o vals w (.pointer (some ⟨g, off, none⟩)) := fun b' W hg hr => by
  have e0 := hr t _ (by rw [ho]; simp [Op.operands]) h0
  obtain ⟨dst, op, type, pos, after, guard⟩ := o
  dsimp only at ho
  subst ho
  refine .inl ?_
  simp only [execOp, e0]
  go_simp
theorem ov_fld_Type1 {t : Tmp} {g off : Nat} (ho : o.op = .fieldAddr 24 (.tmp t) 1) (h0 : vals.lookup t = some (.pointer (some ⟨g, off, none⟩))) : OpVal Tryd.prog o vals w (.pointer (some ⟨g, off + 1, none⟩)) := fun b' W hg hr => by
  have e0 := hr t _ (by rw [ho]; simp [Op.operands]) h0
  obtain ⟨dst, op, type, pos, after, guard⟩ := o
  dsimp only at ho
  subst ho
  refine .inl ?_
  simp only [execOp, e0]
  go_simp
theorem ov_fld_Edge0 {t : Tmp} {g off : Nat} (ho : o.op = .fieldAddr 36 (.tmp t) 0) (h0 : vals.lookup t = some (.pointer (some ⟨g, off, none⟩))) : OpVal Tryd.prog o vals w (.pointer (some ⟨g, off, none⟩)) := fun b' W hg hr => by
  have e0 := hr t _ (by rw [ho]; simp [Op.operands]) h0
  obtain ⟨dst, op, type, pos, after, guard⟩ := o
  dsimp only at ho
  subst ho
  refine .inl ?_
  simp only [execOp, e0]
  go_simp
theorem ov_fld_Edge1 {t : Tmp} {g off : Nat} (ho : o.op = .fieldAddr 36 (.tmp t) 1) (h0 : vals.lookup t = some (.pointer (some ⟨g, off, none⟩))) : OpVal Tryd.prog o vals w (.pointer (some ⟨g, off + 1, none⟩)) := fun b' W hg hr => by
  have e0 := hr t _ (by rw [ho]; simp [Op.operands]) h0
  obtain ⟨dst, op, type, pos, after, guard⟩ := o
  dsimp only at ho
  subst ho
  refine .inl ?_
  simp only [execOp, e0]
  go_simp
theorem ov_fld_Node0 {t : Tmp} {g off : Nat} (ho : o.op = .fieldAddr 39 (.tmp t) 0) (h0 : vals.lookup t = some (.pointer (some ⟨g, off, none⟩))) : OpVal Tryd.prog o vals w (.pointer (some ⟨g, off, none⟩)) := fun b' W hg hr => by
  have e0 := hr t _ (by rw [ho]; simp [Op.operands]) h0
  obtain ⟨dst, op, type, pos, after, guard⟩ := o
  dsimp only at ho
  subst ho
  refine .inl ?_
  simp only [execOp, e0]
  go_simp
theorem ov_fld_Node1 {t : Tmp} {g off : Nat} (ho : o.op = .fieldAddr 39 (.tmp t) 1) (h0 : vals.lookup t = some (.pointer (some ⟨g, off, none⟩))) : OpVal Tryd.prog o vals w (.pointer (some ⟨g, off + 1, none⟩)) := fun b' W hg hr => by
  have e0 := hr t _ (by rw [ho]; simp [Op.operands]) h0
  obtain ⟨dst, op, type, pos, after, guard⟩ := o
  dsimp only at ho
  subst ho
  refine .inl ?_
  simp only [execOp, e0]
  go_simp
theorem ov_fld_Node2 {t : Tmp} {g off : Nat} (ho : o.op = .fieldAddr 39 (.tmp t) 2) (h0 : vals.lookup t = some (.pointer (some ⟨g, off, none⟩))) : OpVal Tryd.prog o vals w (.pointer (some ⟨g, off + 2, none⟩)) := fun b' W hg hr => by
  have e0 := hr t _ (by rw [ho]; simp [Op.operands]) h0
  obtain ⟨dst, op, type, pos, after, guard⟩ := o
  dsimp only at ho
  subst ho
  refine .inl ?_
  simp only [execOp, e0]
  go_simp
theorem ov_fld_Node3 {t : Tmp} {g off : Nat} (ho : o.op = .fieldAddr 39 (.tmp t) 3) (h0 : vals.lookup t = some (.pointer (some ⟨g, off, none⟩))) : OpVal Tryd.prog o vals w (.pointer (some ⟨g, off + 3, none⟩)) := fun b' W hg hr => by
  have e0 := hr t _ (by rw [ho]; simp [Op.operands]) h0
  obtain ⟨dst, op, type, pos, after, guard⟩ := o
  dsimp only at ho
  subst ho
  refine .inl ?_
  simp only [execOp, e0]
  go_simp
theorem ov_fld_Node4 {t : Tmp} {g off : Nat} (ho : o.op = .fieldAddr 39 (.tmp t) 4) (h0 : vals.lookup t = some (.pointer (some ⟨g, off, none⟩))) : OpVal Tryd.prog o vals w (.pointer (some ⟨g, off + 5, none⟩)) := fun b' W hg hr => by
  have e0 := hr t _ (by rw [ho]; simp [Op.operands]) h0
  obtain ⟨dst, op, type, pos, after, guard⟩ := o
  dsimp only at ho
  subst ho
  refine .inl ?_
  simp only [execOp, e0]
  go_simp
theorem ov_ld_int {t : Tmp} {p : Addr} {z : Int} (ho : o.op = .load 3 (.tmp t)) (h0 : vals.lookup t = some (.pointer (some p))) (hc : w.cell? p = some (.int .i64 z)) : OpVal Tryd.prog o vals w (.int .i64 z) := fun b' W hg hr => by
  have e0 := hr t _ (by rw [ho]; simp [Op.operands]) h0
  have c0 := Keeps.grown hg _ _ hc
  obtain ⟨dst, op, type, pos, after, guard⟩ := o
  dsimp only at ho
  subst ho
  refine .inl ?_
  simp only [execOp, e0]
  go_simp
theorem ov_ld_bool {t : Tmp} {p : Addr} {z : Bool} (ho : o.op = .load 4 (.tmp t)) (h0 : vals.lookup t = some (.pointer (some p))) (hc : w.cell? p = some (.bool z)) : OpVal Tryd.prog o vals w (.bool z) := fun b' W hg hr => by
  have e0 := hr t _ (by rw [ho]; simp [Op.operands]) h0
  have c0 := Keeps.grown hg _ _ hc
  obtain ⟨dst, op, type, pos, after, guard⟩ := o
  dsimp only at ho
  subst ho
  refine .inl ?_
  simp only [execOp, e0]
  go_simp
theorem ov_ld_edges {t : Tmp} {p : Addr} {A : Option Addr} {n c : Nat} (ho : o.op = .load 37 (.tmp t)) (h0 : vals.lookup t = some (.pointer (some p))) (hc : w.cell? p = some (.slice A n c)) : OpVal Tryd.prog o vals w (.slice A n c) := fun b' W hg hr => by
  have e0 := hr t _ (by rw [ho]; simp [Op.operands]) h0
  have c0 := Keeps.grown hg _ _ hc
  obtain ⟨dst, op, type, pos, after, guard⟩ := o
  dsimp only at ho
  subst ho
  refine .inl ?_
  simp only [execOp, e0]
  go_simp
theorem ov_ld_nodes {t : Tmp} {p : Addr} {A : Option Addr} {n c : Nat} (ho : o.op = .load 22 (.tmp t)) (h0 : vals.lookup t = some (.pointer (some p))) (hc : w.cell? p = some (.slice A n c)) : OpVal Tryd.prog o vals w (.slice A n c) := fun b' W hg hr => by
  have e0 := hr t _ (by rw [ho]; simp [Op.operands]) h0
  have c0 := Keeps.grown hg _ _ hc
  obtain ⟨dst, op, type, pos, after, guard⟩ := o
  dsimp only at ho
  subst ho
  refine .inl ?_
  simp only [execOp, e0]
  go_simp
theorem ov_ix_edges {s i : Tmp} {b0 off n c : Nat} {z : Int} (k : Nat) (ho : o.op = .indexAddr 37 (.tmp s) (.tmp i)) (h0 : vals.lookup s = some (.slice (some ⟨b0, off, none⟩) n c)) (h1 : vals.lookup i = some (.int .i64 z)) (hz : z = (k : Int)) (hk : k < n) : OpVal Tryd.prog o vals w (.pointer (some ⟨b0, off + k * 2, none⟩)) := fun b' W hg hr => by
  have e0 := hr s _ (by rw [ho]; simp [Op.operands]) h0
  have e1 := hr i _ (by rw [ho]; simp [Op.operands]) h1
  subst hz
  have hk0 : (0 : Int) ≤ (k : Int) := by omega
  have hk1 : (k : Int) < (n : Int) := by omega
  obtain ⟨dst, op, type, pos, after, guard⟩ := o
  dsimp only at ho
  subst ho
  refine .inl ?_
  simp only [execOp, e0, e1]
  go_simp
theorem ov_ixc_edges {s : Tmp} {b0 off n c : Nat} {z : Int} (k : Nat) (ho : o.op = .indexAddr 37 (.tmp s) (.const (.int .i64 z))) (h0 : vals.lookup s = some (.slice (some ⟨b0, off, none⟩) n c)) (hz : z = (k : Int)) (hk : k < n) : OpVal Tryd.prog o vals w (.pointer (some ⟨b0, off + k * 2, none⟩)) := fun b' W hg hr => by
  have e0 := hr s _ (by rw [ho]; simp [Op.operands]) h0
  subst hz
  have hk0 : (0 : Int) ≤ (k : Int) := by omega
  have hk1 : (k : Int) < (n : Int) := by omega
  obtain ⟨dst, op, type, pos, after, guard⟩ := o
  dsimp only at ho
  subst ho
  refine .inl ?_
  simp only [execOp, e0]
  go_simp
theorem ov_ix_nodes {s i : Tmp} {b0 off n c : Nat} {z : Int} (k : Nat) (ho : o.op = .indexAddr 22 (.tmp s) (.tmp i)) (h0 : vals.lookup s = some (.slice (some ⟨b0, off, none⟩) n c)) (h1 : vals.lookup i = some (.int .i64 z)) (hz : z = (k : Int)) (hk : k < n) : OpVal Tryd.prog o vals w (.pointer (some ⟨b0, off + k * 6, none⟩)) := fun b' W hg hr => by
  have e0 := hr s _ (by rw [ho]; simp [Op.operands]) h0
  have e1 := hr i _ (by rw [ho]; simp [Op.operands]) h1
  subst hz
  have hk0 : (0 : Int) ≤ (k : Int) := by omega
  have hk1 : (k : Int) < (n : Int) := by omega
  obtain ⟨dst, op, type, pos, after, guard⟩ := o
  dsimp only at ho
  subst ho
  refine .inl ?_
  simp only [execOp, e0, e1]
  go_simp
theorem ov_ixc_nodes {s : Tmp} {b0 off n c : Nat} {z : Int} (k : Nat) (ho : o.op = .indexAddr 22 (.tmp s) (.const (.int .i64 z))) (h0 : vals.lookup s = some (.slice (some ⟨b0, off, none⟩) n c)) (hz : z = (k : Int)) (hk : k < n) : OpVal Tryd.prog o vals w (.pointer (some ⟨b0, off + k * 6, none⟩)) := fun b' W hg hr => by
  have e0 := hr s _ (by rw [ho]; simp [Op.operands]) h0
  subst hz
  have hk0 : (0 : Int) ≤ (k : Int) := by omega
  have hk1 : (k : Int) < (n : Int) := by omega
  obtain ⟨dst, op, type, pos, after, guard⟩ := o
  dsimp only at ho
  subst ho
  refine .inl ?_
  simp only [execOp, e0]
  go_simp
theorem ov_eql_int_c {s : Tmp} {a c : Int} {b : Bool} {ty : TypeId} (ho : o.op = .binOp .eql 3 (.tmp s) (.const (.int .i64 c)) ty) (h0 : vals.lookup s = some (.int .i64 a)) (hb : (a == c) = b) : OpVal Tryd.prog o vals w (.bool b) := fun b' W hg hr => by
  have e0 := hr s _ (by rw [ho]; simp [Op.operands]) h0
  subst hb
  obtain ⟨dst, op, type, pos, after, guard⟩ := o
  dsimp only at ho
  subst ho
  refine .inl ?_
  simp only [execOp, e0]
  go_simp
theorem ov_neq_int_c {s : Tmp} {a c : Int} {b : Bool} {ty : TypeId} (ho : o.op = .binOp .neq 3 (.tmp s) (.const (.int .i64 c)) ty) (h0 : vals.lookup s = some (.int .i64 a)) (hb : (a != c) = b) : OpVal Tryd.prog o vals w (.bool b) := fun b' W hg hr => by
  have e0 := hr s _ (by rw [ho]; simp [Op.operands]) h0
  subst hb
  obtain ⟨dst, op, type, pos, after, guard⟩ := o
  dsimp only at ho
  subst ho
  refine .inl ?_
  simp only [execOp, e0]
  go_simp
theorem ov_lss {s i : Tmp} {a c : Int} {b : Bool} {ty : TypeId} (ho : o.op = .binOp .lss 3 (.tmp s) (.tmp i) ty) (h0 : vals.lookup s = some (.int .i64 a)) (h1 : vals.lookup i = some (.int .i64 c)) (hb : decide (a < c) = b) : OpVal Tryd.prog o vals w (.bool b) := fun b' W hg hr => by
  have e0 := hr s _ (by rw [ho]; simp [Op.operands]) h0
  have e1 := hr i _ (by rw [ho]; simp [Op.operands]) h1
  subst hb
  obtain ⟨dst, op, type, pos, after, guard⟩ := o
  dsimp only at ho
  subst ho
  refine .inl ?_
  simp only [execOp, e0, e1]
  go_simp
theorem ov_lss_c {s : Tmp} {a c : Int} {b : Bool} {ty : TypeId} (ho : o.op = .binOp .lss 3 (.tmp s) (.const (.int .i64 c)) ty) (h0 : vals.lookup s = some (.int .i64 a)) (hb : decide (a < c) = b) : OpVal Tryd.prog o vals w (.bool b) := fun b' W hg hr => by
  have e0 := hr s _ (by rw [ho]; simp [Op.operands]) h0
  subst hb
  obtain ⟨dst, op, type, pos, after, guard⟩ := o
  dsimp only at ho
  subst ho
  refine .inl ?_
  simp only [execOp, e0]
  go_simp
theorem ov_geq {s i : Tmp} {a c : Int} {b : Bool} {ty : TypeId} (ho : o.op = .binOp .geq 3 (.tmp s) (.tmp i) ty) (h0 : vals.lookup s = some (.int .i64 a)) (h1 : vals.lookup i = some (.int .i64 c)) (hb : decide (a ≥ c) = b) : OpVal Tryd.prog o vals w (.bool b) := fun b' W hg hr => by
  have e0 := hr s _ (by rw [ho]; simp [Op.operands]) h0
  have e1 := hr i _ (by rw [ho]; simp [Op.operands]) h1
  subst hb
  obtain ⟨dst, op, type, pos, after, guard⟩ := o
  dsimp only at ho
  subst ho
  refine .inl ?_
  simp only [execOp, e0, e1]
  go_simp
theorem ov_geq_c {s : Tmp} {a c : Int} {b : Bool} {ty : TypeId} (ho : o.op = .binOp .geq 3 (.tmp s) (.const (.int .i64 c)) ty) (h0 : vals.lookup s = some (.int .i64 a)) (hb : decide (a ≥ c) = b) : OpVal Tryd.prog o vals w (.bool b) := fun b' W hg hr => by
  have e0 := hr s _ (by rw [ho]; simp [Op.operands]) h0
  subst hb
  obtain ⟨dst, op, type, pos, after, guard⟩ := o
  dsimp only at ho
  subst ho
  refine .inl ?_
  simp only [execOp, e0]
  go_simp
theorem ov_gtr {s i : Tmp} {a c : Int} {b : Bool} {ty : TypeId} (ho : o.op = .binOp .gtr 3 (.tmp s) (.tmp i) ty) (h0 : vals.lookup s = some (.int .i64 a)) (h1 : vals.lookup i = some (.int .i64 c)) (hb : decide (a > c) = b) : OpVal Tryd.prog o vals w (.bool b) := fun b' W hg hr => by
  have e0 := hr s _ (by rw [ho]; simp [Op.operands]) h0
  have e1 := hr i _ (by rw [ho]; simp [Op.operands]) h1
  subst hb
  obtain ⟨dst, op, type, pos, after, guard⟩ := o
  dsimp only at ho
  subst ho
  refine .inl ?_
  simp only [execOp, e0, e1]
  go_simp
theorem ov_add_b {s i : Tmp} {a c : Int} {ty : TypeId} (ho : o.op = .binOp .add 3 (.tmp s) (.tmp i) ty) (h0 : vals.lookup s = some (.int .i64 a)) (h1 : vals.lookup i = some (.int .i64 c)) (k0 : -1000000000 ≤ a) (k1 : a ≤ 1000000000) (k2 : -1000000000 ≤ c) (k3 : c ≤ 1000000000) : OpVal Tryd.prog o vals w (.int .i64 (a + c)) := fun b' W hg hr => by
  have e0 := hr s _ (by rw [ho]; simp [Op.operands]) h0
  have e1 := hr i _ (by rw [ho]; simp [Op.operands]) h1
  have hw : IntKind.i64.wrap (a + c) = a + c := IntWalk.i64_in _ ⟨by omega, by omega⟩
  obtain ⟨dst, op, type, pos, after, guard⟩ := o
  dsimp only at ho
  subst ho
  refine .inl ?_
  simp only [execOp, e0, e1]
  go_simp
theorem ov_len_edges {s : Tmp} {A : Option Addr} {n c : Nat} (ho : o.op = .call { callee := .builtin .len, args := #[.tmp s], argTypes := #[37] }) (h0 : vals.lookup s = some (.slice A n c)) : OpVal Tryd.prog o vals w (.int .i64 (n : Int)) := fun b' W _ hr => by
  have e0 := hr s _ (by rw [ho]; simp [Op.operands, Call.operands]) h0
  obtain ⟨dst, op, type, pos, after, guard⟩ := o
  dsimp only at ho
  subst ho
  have e1 : b'.tmps[s]?.getD undef = .slice A n c := by simpa [Act.eval] using e0
  refine .inl ?_
  simp only [execOp]
  go_simp
theorem ov_len_nodes {s : Tmp} {A : Option Addr} {n c : Nat} (ho : o.op = .call { callee := .builtin .len, args := #[.tmp s], argTypes := #[22] }) (h0 : vals.lookup s = some (.slice A n c)) : OpVal Tryd.prog o vals w (.int .i64 (n : Int)) := fun b' W _ hr => by
  have e0 := hr s _ (by rw [ho]; simp [Op.operands, Call.operands]) h0
  obtain ⟨dst, op, type, pos, after, guard⟩ := o
  dsimp only at ho
  subst ho
  have e1 : b'.tmps[s]?.getD undef = .slice A n c := by simpa [Act.eval] using e0
  refine .inl ?_
  simp only [execOp]
  go_simp
/-- A call of no arguments. -/
theorem ov_call0 {f : FuncId} {r : Value} {ts : Array TypeId} (ho : o.op = .call { callee := .value (.func f), args := #[], argTypes := ts }) (hrun : ∀ W, (callFunc f #[]).run Tryd.prog W = .ok (.enter f #[]) W)
    (hc : ∀ W, w.grownBy W none → Calls Tryd.prog f #[] W fun e w'' => e = .returned r ∧ W.grownBy w'' none) : OpVal Tryd.prog o vals w r := fun b W hg hr => by
  obtain ⟨dst, op, type, pos, after, guard⟩ := o
  dsimp only at ho
  subst ho
  refine .inr ⟨f, #[], ?_, hc W hg⟩
  simp [execOp, resolve, Deferred.ofValue, invoke, Act.eval, hrun W]
end

/-! ### The law, for long regions: what is there ahead, and what is made -/
def InitOk (a : Act) : List (Tmp × Value) → Prop
  | [] => True
  | p :: l => a.tmps.getD p.1 undef = p.2 ∧ InitOk a l
theorem InitOk.at_ {a : Act} : ∀ {l : List (Tmp × Value)}, InitOk a l → ∀ p ∈ l, a.tmps.getD p.1 undef = p.2
  | p :: l, h, q, hq => by
    rcases List.mem_cons.1 hq with rfl | hq
    · exact h.1
    · exact h.2.at_ q hq
theorem region_known {P : Program} {ops : Array Oper} {Q : Exit → Act → World → Prop} {id : Nat} {a : Act} {w : World} (hm : P.follows .mixedOrders = true) (made init : List (Tmp × Value)) (hok : regOkG (made ++ init) ops = true) (ds : List Tmp) (hds : dstsOf ops = ds) (hlt : (ds.all fun t => decide (t < a.tmps.size)) = true) (hdn : ds.Nodup)
    (hmd : (made.all fun p => ds.contains p.1) = true) (h0 : InitOk a init)
    (hops : AllOps (fun _ o => ∀ t c, o.dst = some t → (made ++ init).lookup t = some c → OpVal P o (made ++ init) w c) ops.toList 0)
    (hQ : ∀ (vs : Tmp → Value) (W : World), w.grownBy W none → (∀ t v, (made ++ init).lookup t = some v → t ∈ ds → vs t = v) →
      Q .normal { a with tmps := ds.foldl (fun (ts : Array Value) t => ts.setIfInBounds t (vs t)) a.tmps } W) :
    (Code.region id ops true).wp P Q a w :=
  region_guards hm (made ++ init) hok ds hds hlt hdn (fun p hp hn => by
    rcases List.mem_append.1 hp with hp | hp
    · exact absurd (by simpa using List.all_eq_true.1 hmd p hp) hn
    · exact h0.at_ p hp) hops hQ
end Go.Proofs.YtoklaajiajilhaaDoor

/- graph: hasPay, edges, and the edges one by one. -/
import Derived.Test.YtoklaajiajilhaaDoorGLan
import Derived.Test.YtoklaajiajilhaaDoorGEdg
import Derived.Laws.Rows
namespace Go.Proofs.YtoklaajiajilhaaDoor
open Go.RowKit Go.Shelf
attribute [local go_sem] Oper.semAt_some

theorem edges_eq_chan {x : Nd} (h : x.chan = true) : edgesL x = [x.pay] ++ x.next := by simp [edgesL, h]
theorem edges_eq_word {x : Nd} (h : x.chan = false) : edgesL x = [] ++ x.next := by simp [edgesL, h]
theorem pre_take {α : Type} (p l : List α) (k : Nat) : p ++ l.take k <+: p ++ l := (List.prefix_append_right_inj p).2 (List.take_prefix _ _)
/-- What stands between two edges of a node. -/
def EI (W : World) (J : List Ed → World → Prop) (p0 next : List Ed) (k : Nat) (wr : World) : Prop := J (p0 ++ next.take k) wr ∧ KeepsCells W wr

end Go.Proofs.YtoklaajiajilhaaDoor

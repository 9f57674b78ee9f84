/- insn: formOf: the form of each op. -/
import Derived.Test.YtmbdaenjeeklfaaDoorIBck
import Derived.Test.YtmbdaenjeeklfaaDoorOctW
namespace Go.Proofs.YtmbdaenjeeklfaaDoor
open Go.RowKit

def kdC (k : Kd) : List Value := [.int .i64 k.most, .bool k.reg]
/-- A form, in cells. -/
def fmC (f : Fm) : Array Value := #[.bool f.hasA, .int .i64 f.b.most, .bool f.b.reg, .int .i64 f.c.most, .bool f.c.reg, .int .i64 f.d.most, .bool f.d.reg, .int .i64 (f.least : Int), .int .i64 (f.most : Int), .int .i64 f.each.most, .bool f.each.reg]
def isOp (c : Kl) : Bool := match c with
  | .no => false
  | _ => true
def FormIs (c : Kl) (w : World) (e : Ending) (w' : World) : Prop := e = .returned (.tuple #[.agg (fmC (fmOf c)), .bool (isOp c)]) ∧ w.grownBy w' none

theorem form_res {tmps : Array Value} {W : World} {b : Nat} {f : Fm} {q : Bool} (h2 : tmps.getD 2 undef = .pointer (some ⟨b, 0, none⟩)) (h3 : tmps.getD 3 undef = .bool q) (hb : Blk W b 82 (fmC f)) :
    (results Tryd.f40 tmps).run Tryd.prog W = .ok (.tuple #[.agg (fmC f), .bool q]) W := by
  have h2' : tmps[2]?.getD undef = .pointer (some ⟨b, 0, none⟩) := by simpa using h2
  have h3' : tmps[3]?.getD undef = .bool q := by simpa using h3
  have c0 := hb.cell 0
  have c1 := hb.cell 1
  have c2 := hb.cell 2
  have c3 := hb.cell 3
  have c4 := hb.cell 4
  have c5 := hb.cell 5
  have c6 := hb.cell 6
  have c7 := hb.cell 7
  have c8 := hb.cell 8
  have c9 := hb.cell 9
  have c10 := hb.cell 10
  clear hb
  simp only [fmC, List.getElem?_toArray] at c0 c1 c2 c3 c4 c5 c6 c7 c8 c9 c10
  simp [results, Tryd.results40, h2', h3', go_sem, c0, c1, c2, c3, c4, c5, c6, c7, c8, c9, c10, fmC]

end Go.Proofs.YtmbdaenjeeklfaaDoor

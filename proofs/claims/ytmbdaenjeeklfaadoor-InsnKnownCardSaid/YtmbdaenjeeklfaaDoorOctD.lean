/- octets: Take, Part and End of a reader: what each answers, and what it leaves. -/
import Derived.Test.YtmbdaenjeeklfaaDoorOctC
import Derived.Laws.IdiomStrings
namespace Go.Proofs.YtmbdaenjeeklfaaDoor
open Go.RowKit

theorem byts_string {w : World} {bb off : Nat} {bs : List UInt8} (h : Byts w bb off bs) (n cap : Nat) (hn : bs.length = n) :
    (convert 63 9 (.slice (some ⟨bb, off, none⟩) n cap)).run Tryd.prog w = .ok (.string ⟨bs.toArray⟩) w := by
  subst hn
  refine run_convert_bytes_back w _ _ _ ⟨bb, off, none⟩ cap bs Tryd.underlying63 Tryd.underlying5 Tryd.underlying9 fun j hj => ?_
  have := h.cell (j := j) (List.getElem?_eq_getElem hj)
  rw [← this]
  congr 1
  unfold Addr.add
  split
  · rename_i h0; subst h0; rfl
  · rfl

theorem take_read {w w1 : World} {g : Nat} (hlt : g < w.heap.size) (hg1 : (w.alloc (.cells #[.nilIface] 44)).grownBy w1 (some g)) :
    w1.cell? ⟨w.heap.size, 0, none⟩ = some .nilIface ∧ w1.frozen? ⟨w.heap.size, 0, none⟩ = false := by
  have hb := (Blk.new w 44 #[.nilIface]).grown hg1 (fun e => by injection e with e; omega)
  exact ⟨hb.cell 0, hb.frozen 0⟩

/-- What Part leaves: a new reader of the next n bytes, and the old one behind them. -/
def PartOk (g : Nat) (bs : List UInt8) (at_ bg n : Nat) (w : World) (e : Ending) (w' : World) : Prop :=
  ∃ p, e = .returned (.tuple #[.pointer (some ⟨p, 0, none⟩), .nilIface]) ∧ w.heap.size ≤ p ∧ w.grownBy w' (some g) ∧ Rdr w' g bs (at_ + n) bg ∧ Rdr w' p ((bs.drop at_).take n) 0 (bg + at_)

/-- The world behind the closure's call of Part. -/
def partWorld (w w1 : World) (o : Obj) : World := ((w1.setCell ⟨w.heap.size, 0, none⟩ .nilIface).alloc o).setCell ⟨w.heap.size, 0, none⟩ .nilIface
theorem part_end {w w1 : World} {k g bb off n at_ bg : Nat} {bs : List UInt8} (hlt : g < w.heap.size) (hg1 : ((w.alloc (.cells #[.nilIface] 44)).drewN k).grownBy w1 (some g)) (hr1 : Rdr w1 g bs (at_ + n) bg) (hy1 : Byts w1 bb off ((bs.drop at_).take n)) :
    ((w1.setCell ⟨w.heap.size, 0, none⟩ .nilIface).alloc (.cells #[.slice (some ⟨bb, off, none⟩) n n, .int .i64 0, .int .i64 ((bg : Int) + (at_ : Int))] 87)).cell? ⟨w.heap.size, 0, none⟩ = some .nilIface ∧
    ((w1.setCell ⟨w.heap.size, 0, none⟩ .nilIface).alloc (.cells #[.slice (some ⟨bb, off, none⟩) n n, .int .i64 0, .int .i64 ((bg : Int) + (at_ : Int))] 87)).frozen? ⟨w.heap.size, 0, none⟩ = false ∧
    (partWorld w w1 (.cells #[.slice (some ⟨bb, off, none⟩) n n, .int .i64 0, .int .i64 ((bg : Int) + (at_ : Int))] 87)).cell? ⟨w.heap.size, 0, none⟩ = some .nilIface ∧
    PartOk g bs at_ bg n w (.returned (.tuple #[.pointer (some ⟨w1.heap.size, 0, none⟩), .nilIface])) (partWorld w w1 (.cells #[.slice (some ⟨bb, off, none⟩) n n, .int .i64 0, .int .i64 ((bg : Int) + (at_ : Int))] 87)) := by
  have hle := hr1.le
  have hbd := hr1.bound
  have hlen : ((bs.drop at_).take n).length = n := by simp; omega
  unfold PartOk
  generalize hl : (bs.drop at_).take n = l at *
  have hb := ((Blk.new w 44 #[.nilIface]).drewN k).grown hg1 (fun e => by injection e with e; omega)
  have hsz := hb.lt
  have hb1 := hb.set_ 0 .nilIface
  have hs1 : (w1.setCell ⟨w.heap.size, 0, none⟩ .nilIface).heap.size = w1.heap.size := by simp [World.setCell]
  have hro : ∀ (v : World) cs, Blk v w.heap.size 44 cs → ∀ j, some w.heap.size = some j → ∃ t cs, Blk v j t cs ∧ t ≠ 5 := fun v cs hv j e => by
    injection e with e
    subst e
    exact ⟨_, _, hv, by decide⟩
  have hk1 : w1.grownBy (w1.setCell ⟨w.heap.size, 0, none⟩ .nilIface) (some w.heap.size) := only_setCell (only_refl _ _) rfl _
  have hr2 := hr1.grown hk1 (fun e => by injection e with e; omega) (hro _ _ hb)
  have hy2 := hy1.grown hk1 (fun e => (hy1.ne_ hb (by decide)) (by injection e))
  have hg2 : w.grownBy (w1.setCell ⟨w.heap.size, 0, none⟩ .nilIface) (some g) := only_setNew (only_trans (only_weak (only_drewN (only_alloc (only_refl w none) _) k) _) hg1) (Nat.le_refl _) _
  unfold partWorld
  generalize w1.setCell ⟨w.heap.size, 0, none⟩ .nilIface = w2 at *
  have hnew := Blk.new w2 87 #[.slice (some ⟨bb, off, none⟩) n n, .int .i64 0, .int .i64 ((bg : Int) + (at_ : Int))]
  generalize hob : (Obj.cells #[.slice (some ⟨bb, off, none⟩) n n, .int .i64 0, .int .i64 ((bg : Int) + (at_ : Int))] 87) = ob at *
  have hk0 : w2.grownBy (w2.alloc ob) none := only_alloc (only_refl _ _) _
  have hk : (w2.alloc ob).grownBy ((w2.alloc ob).setCell ⟨w.heap.size, 0, none⟩ .nilIface) (some w.heap.size) := only_setCell (only_refl _ _) rfl _
  have hb' := hb1.kept hk0
  have hb2 := hb'.set_ 0 .nilIface
  have hpr : Rdr (w2.alloc ob) w1.heap.size l 0 (bg + at_) := by
    refine ⟨bb, off, n, ?_, hy2.grown hk0 (fun e => by cases e), by omega, by omega, by omega⟩
    rw [hlen, Int.natCast_add, ← hs1]
    exact hnew
  refine ⟨hb'.cell 0, hb'.frozen 0, hb2.cell 0, w1.heap.size, rfl, by omega, ?_, ?_, ?_⟩
  · exact only_setNew (only_alloc hg2 _) (Nat.le_refl _) _
  · exact (hr2.kept hk0).grown hk (fun e => by injection e with e; omega) (hro _ _ hb')
  · exact hpr.grown hk (fun e => by injection e with e; omega) (hro _ _ hb')

theorem part_read {w w1 : World} {g k : Nat} (hlt : g < w.heap.size) (hg1 : ((w.alloc (.cells #[.nilIface] 44)).drewN k).grownBy w1 (some g)) :
    w1.cell? ⟨w.heap.size, 0, none⟩ = some .nilIface ∧ w1.frozen? ⟨w.heap.size, 0, none⟩ = false ∧ w.heap.size < w1.heap.size := by
  have hb := ((Blk.new w 44 #[.nilIface]).drewN k).grown hg1 (fun e => by injection e with e; omega)
  exact ⟨hb.cell 0, hb.frozen 0, hb.lt⟩

end Go.Proofs.YtmbdaenjeeklfaaDoor

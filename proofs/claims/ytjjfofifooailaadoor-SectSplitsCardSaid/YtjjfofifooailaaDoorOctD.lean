/- octets: Take, Part and End of a reader: what each answers, and what it leaves. -/
import Derived.Test.YtjjfofifooailaaDoorOctC
import Derived.Laws.IdiomStrings
namespace Go.Proofs.YtjjfofifooailaaDoor
open Go.RowKit

theorem byts_string {w : World} {bb off : Nat} {bs : List UInt8} (h : Byts w bb off bs) (n cap : Nat) (hn : bs.length = n) :
    (convert 49 9 (.slice (some ⟨bb, off, none⟩) n cap)).run Tryd.prog w = .ok (.string ⟨bs.toArray⟩) w := by
  subst hn
  refine run_convert_bytes_back w _ _ _ ⟨bb, off, none⟩ cap bs Tryd.underlying49 Tryd.underlying5 Tryd.underlying9 fun j hj => ?_
  have := h.cell (j := j) (List.getElem?_eq_getElem hj)
  rw [← this]
  congr 1
  unfold Addr.add
  split
  · rename_i h0; subst h0; rfl
  · rfl

theorem take_read {w w1 : World} {g : Nat} (hlt : g < w.heap.size) (hg1 : (w.alloc (.cells #[.nilIface] 39)).grownBy w1 (some g)) :
    w1.cell? ⟨w.heap.size, 0, none⟩ = some .nilIface ∧ w1.frozen? ⟨w.heap.size, 0, none⟩ = false := by
  have hb := (Blk.new w 39 #[.nilIface]).grown hg1 (fun e => by injection e with e; omega)
  exact ⟨hb.cell 0, hb.frozen 0⟩

set_option maxRecDepth 100000 in
set_option maxHeartbeats 1000000 in
theorem take_ok {w : World} {g : Nat} {bs : List UInt8} {at_ bg : Nat} (h : Rdr w g bs at_ bg) (n : Nat) (hn : at_ + n ≤ bs.length) :
    Calls Tryd.prog 35 #[.pointer (some ⟨g, 0, none⟩), .int .i64 (n : Int)] w fun e w' => e = .returned (.tuple #[.string ⟨((bs.drop at_).take n).toArray⟩, .nilIface]) ∧ w.grownBy w' (some g) ∧ Rdr w' g bs (at_ + n) bg := by
  have hmf : ∀ (fn : Fn) (first cap : Array Value) (w : World), (Instr.makeFunc fn first cap).run Tryd.prog w = .ok (.func fn first cap) w := fun _ _ _ _ => rfl
  have hR : Rdr (w.alloc (.cells #[.nilIface] 39)) g bs at_ bg := h.kept (only_alloc (only_refl _ _) _)
  have hlt := h.lt
  have H := next_ok hR n hn
  have hlen : ((bs.drop at_).take n).length = n := by simp; omega
  generalize hl : (bs.drop at_).take n = l
  rw [hl] at hlen
  have HL := Lib.hid hl
  have HN := Lib.hid hlen
  clear hl hlen hn
  go_enter_defers Tryd.func35, Tryd.ntmps35
  go_wp2_with (go_at_call 50; ((with_reducible refine H.mono ?_); rintro e w1 ⟨bb, off, rfl, hg1, hr1, hy1⟩); obtain ⟨ce, fe⟩ := take_read hlt hg1; rw [HL.out] at hy1; have hcv := byts_string hy1 n n HN.out)
  refine leaves_cons (f := 49) (args := #[.pointer (some ⟨w.heap.size, 0, none⟩)]) (by simp) (by simp [go_sem]) ?_
  refine (take_idle ⟨w.heap.size, 0, none⟩ .nilIface _ ?_ ?_).mono ?_
  · simp [go_sem, ce]
  · simp [go_sem, fe]
  rintro e u' w'' ⟨rfl, rfl, rfl⟩
  obtain ⟨e1, e2, e3⟩ := ok_end hlt hg1 hr1
  unfold okWorld at e1 e2 e3
  simp [Leaves, settle, results, Tryd.results35, go_sem, e1, e2, e3]

/-- What Part leaves: a new reader of the next n bytes, and the old one behind them. -/
def PartOk (g : Nat) (bs : List UInt8) (at_ bg n : Nat) (w : World) (e : Ending) (w' : World) : Prop :=
  ∃ p, e = .returned (.tuple #[.pointer (some ⟨p, 0, none⟩), .nilIface]) ∧ w.heap.size ≤ p ∧ w.grownBy w' (some g) ∧ Rdr w' g bs (at_ + n) bg ∧ Rdr w' p ((bs.drop at_).take n) 0 (bg + at_)

/-- The world behind the closure's call of Part. -/
def partWorld (w w1 : World) (o : Obj) : World := ((w1.setCell ⟨w.heap.size, 0, none⟩ .nilIface).alloc o).setCell ⟨w.heap.size, 0, none⟩ .nilIface
theorem part_end {w w1 : World} {k g bb off n at_ bg : Nat} {bs : List UInt8} (hlt : g < w.heap.size) (hg1 : ((w.alloc (.cells #[.nilIface] 39)).drewN k).grownBy w1 (some g)) (hr1 : Rdr w1 g bs (at_ + n) bg) (hy1 : Byts w1 bb off ((bs.drop at_).take n)) :
    ((w1.setCell ⟨w.heap.size, 0, none⟩ .nilIface).alloc (.cells #[.slice (some ⟨bb, off, none⟩) n n, .int .i64 0, .int .i64 ((bg : Int) + (at_ : Int))] 91)).cell? ⟨w.heap.size, 0, none⟩ = some .nilIface ∧
    ((w1.setCell ⟨w.heap.size, 0, none⟩ .nilIface).alloc (.cells #[.slice (some ⟨bb, off, none⟩) n n, .int .i64 0, .int .i64 ((bg : Int) + (at_ : Int))] 91)).frozen? ⟨w.heap.size, 0, none⟩ = false ∧
    (partWorld w w1 (.cells #[.slice (some ⟨bb, off, none⟩) n n, .int .i64 0, .int .i64 ((bg : Int) + (at_ : Int))] 91)).cell? ⟨w.heap.size, 0, none⟩ = some .nilIface ∧
    PartOk g bs at_ bg n w (.returned (.tuple #[.pointer (some ⟨w1.heap.size, 0, none⟩), .nilIface])) (partWorld w w1 (.cells #[.slice (some ⟨bb, off, none⟩) n n, .int .i64 0, .int .i64 ((bg : Int) + (at_ : Int))] 91)) := by
  have hle := hr1.le
  have hbd := hr1.bound
  have hlen : ((bs.drop at_).take n).length = n := by simp; omega
  unfold PartOk
  generalize hl : (bs.drop at_).take n = l at *
  have hb := ((Blk.new w 39 #[.nilIface]).drewN k).grown hg1 (fun e => by injection e with e; omega)
  have hsz := hb.lt
  have hb1 := hb.set_ 0 .nilIface
  have hs1 : (w1.setCell ⟨w.heap.size, 0, none⟩ .nilIface).heap.size = w1.heap.size := by simp [World.setCell]
  have hro : ∀ (v : World) cs, Blk v w.heap.size 39 cs → ∀ j, some w.heap.size = some j → ∃ t cs, Blk v j t cs ∧ t ≠ 5 := fun v cs hv j e => by
    injection e with e
    subst e
    exact ⟨_, _, hv, by decide⟩
  have hk1 : w1.grownBy (w1.setCell ⟨w.heap.size, 0, none⟩ .nilIface) (some w.heap.size) := only_setCell (only_refl _ _) rfl _
  have hr2 := hr1.grown hk1 (fun e => by injection e with e; omega) (hro _ _ hb)
  have hy2 := hy1.grown hk1 (fun e => (hy1.ne_ hb (by decide)) (by injection e))
  have hg2 : w.grownBy (w1.setCell ⟨w.heap.size, 0, none⟩ .nilIface) (some g) := only_setNew (only_trans (only_weak (only_drewN (only_alloc (only_refl w none) _) k) _) hg1) (Nat.le_refl _) _
  unfold partWorld
  generalize w1.setCell ⟨w.heap.size, 0, none⟩ .nilIface = w2 at *
  have hnew := Blk.new w2 91 #[.slice (some ⟨bb, off, none⟩) n n, .int .i64 0, .int .i64 ((bg : Int) + (at_ : Int))]
  generalize hob : (Obj.cells #[.slice (some ⟨bb, off, none⟩) n n, .int .i64 0, .int .i64 ((bg : Int) + (at_ : Int))] 91) = ob at *
  have hk0 : w2.grownBy (w2.alloc ob) none := only_alloc (only_refl _ _) _
  have hk : (w2.alloc ob).grownBy ((w2.alloc ob).setCell ⟨w.heap.size, 0, none⟩ .nilIface) (some w.heap.size) := only_setCell (only_refl _ _) rfl _
  have hb' := hb1.kept hk0
  have hb2 := hb'.set_ 0 .nilIface
  have hpr : Rdr (w2.alloc ob) w1.heap.size l 0 (bg + at_) := by
    refine ⟨bb, off, n, ?_, hy2.grown hk0 (fun e => by cases e), by omega, by omega, by omega⟩
    rw [hlen, Int.natCast_add, ← hs1]
    exact hnew
  refine ⟨hb'.cell 0, hb'.frozen 0, hb2.cell 0, w1.heap.size, rfl, by omega, ?_, ?_, ?_⟩
  · exact only_setNew (only_alloc hg2 _) (Nat.le_refl _) _
  · exact (hr2.kept hk0).grown hk (fun e => by injection e with e; omega) (hro _ _ hb')
  · exact hpr.grown hk (fun e => by injection e with e; omega) (hro _ _ hb')

theorem part_read {w w1 : World} {g k : Nat} (hlt : g < w.heap.size) (hg1 : ((w.alloc (.cells #[.nilIface] 39)).drewN k).grownBy w1 (some g)) :
    w1.cell? ⟨w.heap.size, 0, none⟩ = some .nilIface ∧ w1.frozen? ⟨w.heap.size, 0, none⟩ = false ∧ w.heap.size < w1.heap.size := by
  have hb := ((Blk.new w 39 #[.nilIface]).drewN k).grown hg1 (fun e => by injection e with e; omega)
  exact ⟨hb.cell 0, hb.frozen 0, hb.lt⟩

set_option maxRecDepth 100000 in
set_option maxHeartbeats 1000000 in
theorem part_ok {w : World} {g : Nat} {bs : List UInt8} {at_ bg : Nat} (h : Rdr w g bs at_ bg) (n : Nat) (hn : at_ + n ≤ bs.length) :
    Calls Tryd.prog 72 #[.pointer (some ⟨g, 0, none⟩), .int .i64 (n : Int)] w (PartOk g bs at_ bg n w) := by
  have hmf : ∀ (fn : Fn) (first cap : Array Value) (w : World), (Instr.makeFunc fn first cap).run Tryd.prog w = .ok (.func fn first cap) w := fun _ _ _ _ => rfl
  have hR : Rdr (w.alloc (.cells #[.nilIface] 39)) g bs at_ bg := h.kept (only_alloc (only_refl _ _) _)
  have hlt := h.lt
  have HP := place_rdr hR
  have H := fun k => next_ok (hR.kept (only_drewN (only_refl _ _) k)) n hn
  clear hn
  go_enter_defers Tryd.func72, Tryd.ntmps72
  go_wp2_with (first
    | (go_at_call 34; ((with_reducible refine HP.mono ?_); rintro e w' ⟨rfl, k, rfl⟩))
    | (go_at_call 50; ((with_reducible refine (H _).mono ?_); rintro e w1 ⟨bb, off, rfl, hg1, hr1, hy1⟩); obtain ⟨ce, fe, cz⟩ := part_read hlt hg1))
  refine leaves_cons (f := 74) (args := #[.pointer (some ⟨w.heap.size, 0, none⟩)]) (by simp) (by simp [go_sem]) ?_
  obtain ⟨e0, f0, e1, e2⟩ := part_end hlt hg1 hr1 hy1
  refine (part_idle ⟨w.heap.size, 0, none⟩ .nilIface _ e0 f0).mono ?_
  rintro e u' w'' ⟨rfl, rfl, rfl⟩
  unfold partWorld at e1 e2
  simp [Leaves, settle, results, Tryd.results72, go_sem, e1, e2]

end Go.Proofs.YtjjfofifooailaaDoor

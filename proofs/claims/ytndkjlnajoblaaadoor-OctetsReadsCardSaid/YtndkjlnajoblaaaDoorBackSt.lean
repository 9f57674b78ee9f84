/- For OctetsBack: the pieces, the writer and the reader, and what stays of them behind each call. -/
import Derived.Test.YtndkjlnajoblaaaDoorStep
namespace Go.Proofs.YtndkjlnajoblaaaDoor
open Go.RowKit

/-- All bytes of the pieces, one behind the other. -/
def bsum (ps : List ByteArray) : List UInt8 := ps.flatMap fun s => s.data.toList
theorem bsum_snoc (ps : List ByteArray) (s : ByteArray) : bsum (ps ++ [s]) = bsum ps ++ s.data.toList := by simp [bsum]
theorem bsum_le (ps : List ByteArray) (h : ∀ s ∈ ps, s.size ≤ 100) : (bsum ps).length ≤ 100 * ps.length := by
  induction ps with
  | nil => simp [bsum]
  | cons s ps ih =>
    have h1 := ih (fun x hx => h x (List.mem_cons_of_mem _ hx))
    have h2 := h s (List.mem_cons_self)
    have h3 : bsum (s :: ps) = s.data.toList ++ bsum ps := by simp [bsum]
    rw [h3, List.length_append, bytes_len, List.length_cons]
    omega
def strV (s : ByteArray) : Value := .string s

section
variable {w w' : World} {B n size : Nat} {e t : TypeId} {v : Value} {xs : List Value}
theorem own_ne {g : Nat} {cs : Array Value} (h : w.ownsRow B e size v n xs) (hg : Blk w g t cs) (hne : e ≠ t) : v.ownBlock ≠ some g := by
  rcases h.2 with ⟨rfl, _⟩ | ⟨g', cap, cur, rfl, _, hh, _⟩
  · simp [Value.ownBlock]
  · intro he
    have : g' = g := by simpa [Value.ownBlock] using he
    subst this
    exact Blk.ne_ (t := e) hh hg hne rfl
theorem own_own_ne {B' n' size' : Nat} {v' : Value} {xs' : List Value} (h : w.ownsRow B e size v n xs) (h' : w.ownsRow B' t size' v' n' xs') (hne : e ≠ t) : v.ownBlock = none ∨ v.ownBlock ≠ v'.ownBlock := by
  rcases h'.2 with ⟨rfl, _⟩ | ⟨g', cap, cur, rfl, _, hh, _⟩
  · by_cases hv : v.ownBlock = none
    · exact .inl hv
    · exact .inr (by simpa [Value.ownBlock] using hv)
  · exact .inr (own_ne h (t := t) (cs := cur) hh hne)
theorem own_turn {S : Nat → Prop} (h : w.ownsRow B e size v n xs) (ht : Turn S w w') (hS : ∀ k, v.ownBlock = some k → ¬ S k) : w'.ownsRow B e size v n xs := by
  refine ⟨h.1, ?_⟩
  rcases h.2 with h0 | ⟨g, cap, cur, rfl, hb, hh, r⟩
  · exact .inl h0
  · have hlt : g < w.heap.size := by
      rcases Nat.lt_or_ge g w.heap.size with h' | h'
      · exact h'
      · rw [Array.getElem?_eq_none h'] at hh; cases hh
    exact .inr ⟨g, cap, cur, rfl, hb, (ht.block g hlt (hS g rfl)).trans hh, r⟩
theorem own_not_u8 (h : w.ownsRow B e size v n xs) (he : e ≠ 5) {k : Nat} (hk : v.ownBlock = some k) : ¬ IsU8 w k := by
  rcases h.2 with ⟨rfl, _⟩ | ⟨g, cap, cur, rfl, hb, hh, r⟩
  · simp [Value.ownBlock] at hk
  · have : g = k := by simpa [Value.ownBlock] using hk
    subst this
    exact Blk.not_u8 (t := e) hh he
theorem Wtr.grown {g : Nat} {bs : List UInt8} {row : Option Nat} (h : Wtr B w g bs) (hg : w.grownBy w' row) (h1 : some g ≠ row) (h2 : ∀ k, row = some k → ¬ IsU8 w k) : Wtr B w' g bs := by
  obtain ⟨hB, v, hb, ho⟩ := h
  refine ⟨hB, v, hb.grown hg h1, ho.kept hg ?_⟩
  by_cases hv : v.ownBlock = none
  · exact .inl hv
  · exact .inr (fun e => by
      obtain ⟨k, hk⟩ := Option.ne_none_iff_exists'.1 hv
      exact h2 k (e.symm.trans hk) (own_u8 ho hk).2)
end

/-- The writer holds the pieces' bytes, and the list of the pieces is the call's own. -/
structure BS (w0 w : World) (gw : Nat) (vp : Value) (ps : List ByteArray) : Prop where
  err0 : ErrType w0
  step : w0.grownBy w none
  wtr : Wtr w0.heap.size w gw (bsum ps)
  own : w.ownsRow w0.heap.size 9 1 vp ps.length (ps.map strV)

section
variable {w0 w w' : World} {gw g a : Nat} {vp : Value} {ps : List ByteArray} {bs : List UInt8}
theorem BS.err (h : BS w0 w gw vp ps) : ErrType w := h.err0.kept h.step (fun _ e => by cases e)
theorem BS.kept (h : BS w0 w gw vp ps) (hg : w.grownBy w' none) : BS w0 w' gw vp ps :=
  ⟨h.err0, only_trans h.step hg, h.wtr.kept hg, h.own.kept hg (by cases hv : vp.ownBlock <;> simp)⟩
theorem BS.rdr {cs : Array Value} (h : BS w0 w gw vp ps) (hg : w.grownBy w' (some g)) (hb : Blk w g 63 cs) (hge : w0.heap.size ≤ g) : BS w0 w' gw vp ps := by
  refine ⟨h.err0, only_new h.step hg hge, ?_, h.own.kept hg (.inr (own_ne h.own hb (by decide)))⟩
  refine h.wtr.grown hg (fun e => ?_) (fun k e => by injection e with e; subst e; exact hb.not_u8 (by decide))
  obtain ⟨_, v, hb2, _⟩ := h.wtr
  exact Blk.ne_ hb2 hb (by decide) (by injection e)
/-- Behind an append to the pieces. -/
theorem BS.appended {w1 : World} {vp' : Value} {s : ByteArray} (h : BS w0 w gw vp ps) (hg : w.grownBy w1 vp.ownBlock) (ho : w1.ownsRow w0.heap.size 9 1 vp' (ps.length + 1) (ps.map strV ++ [strV s])) :
    ErrType w1 ∧ w0.grownBy w1 none ∧ Wtr w0.heap.size w1 gw (bsum ps) ∧ w1.ownsRow w0.heap.size 9 1 vp' (ps ++ [s]).length ((ps ++ [s]).map strV) := by
  have hst : w0.grownBy w1 none := by
    refine ⟨hg.os.trans h.step.os, hg.tape.trans h.step.tape, hg.output.trans h.step.output, Nat.le_trans h.step.size hg.size, fun i hi _ => ?_⟩
    refine (hg.block i (Nat.lt_of_lt_of_le hi h.step.size) (fun e => ?_)).trans (h.step.block i hi (fun e => by cases e))
    have := (h.own.lt i e.symm).1
    omega
  refine ⟨h.err0.kept hst (fun _ e => by cases e), hst, ?_, ?_⟩
  · refine h.wtr.grown hg (fun e => ?_) (fun k e => own_not_u8 h.own (by decide) e)
    obtain ⟨_, v, hb2, _⟩ := h.wtr
    exact own_ne h.own hb2 (by decide) e.symm
  · rw [List.length_append, List.map_append]; exact ho
/-- Behind what the writer wrote. -/
theorem BS.wrote {w1 w2 : World} {s : ByteArray} (err0 : ErrType w0) (hst : w0.grownBy w1 none) (ho : w1.ownsRow w0.heap.size 9 1 vp (ps ++ [s]).length ((ps ++ [s]).map strV)) (hw1 : Wtr w0.heap.size w1 gw (bsum ps))
    (hw2 : Wtr w0.heap.size w2 gw (bsum ps ++ s.data.toList)) (ht : Turn (WS w0.heap.size w1 gw) w1 w2) : BS w0 w2 gw vp (ps ++ [s]) := by
  refine ⟨err0, ?_, by rw [bsum_snoc]; exact hw2, ?_⟩
  · have hb := ht.below (B := w0.heap.size) hst.size (fun i hi => by
      rcases hi with rfl | ⟨h, _⟩
      · exact hw1.1
      · exact h)
    exact only_of_below ((below_of_only hst).trans hb) none
  · refine own_turn ho ht (fun k hk hs => ?_)
    rcases hs with rfl | ⟨_, h8⟩
    · obtain ⟨_, v, hb2, _⟩ := hw1
      exact own_ne ho hb2 (by decide) hk
    · exact own_not_u8 ho (by decide) hk h8
end

theorem one_byte (s : ByteArray) (h : s.size = 1) (h0 : 0 < s.size) : [s[0]] = s.data.toList := by
  have hl : s.data.toList.length = 1 := by rw [bytes_len]; exact h
  obtain ⟨x, hx⟩ := List.length_eq_one_iff.1 hl
  rw [hx]
  have h1 : s.data.toList[0]? = some s[0] := by
    have hz : 0 < s.data.toList.length := by omega
    rw [List.getElem?_eq_getElem hz]
    rfl
  rw [hx] at h1
  simpa using h1.symm
theorem byte_here {p : ByteArray} {bs : List UInt8} {a : Nat} (h : p.size = 1) (h0 : 0 < p.size) (hs : p.data.toList = (bs.drop a).take p.size) : bs[a]? = some p[0] := by
  have h1 := one_byte p h h0
  rw [hs, h] at h1
  have h2 : ((bs.drop a).take 1)[0]? = some p[0] := by rw [← h1]; rfl
  simpa using h2
theorem bytes_of_list {s : ByteArray} {l : List UInt8} (h : s.data.toList = l) : (⟨l.toArray⟩ : ByteArray) = s := by
  subst h
  apply ByteArray.ext
  simp
theorem wlen_eq {B g : Nat} {w : World} {bs : List UInt8} (h : Wtr B w g bs) (m : Nat) (hm : bs.length = m) :
    Calls Tryd.prog 25 #[.pointer (some ⟨g, 0, none⟩)] w fun e w' => e = .returned (.int .i64 (m : Int)) ∧ w = w' := by subst hm; exact wlen_any h
theorem wtext_eq {B g : Nat} {w : World} {bs : List UInt8} (h : Wtr B w g bs) (t : ByteArray) (ht : t.data.toList = bs) :
    Calls Tryd.prog 26 #[.pointer (some ⟨g, 0, none⟩)] w fun e w' => e = .returned (.string t) ∧ w = w' := by
  have := wtext_any h
  rw [bytes_of_list ht] at this
  exact this
theorem place_eq {w : World} {g a : Nat} {bs : List UInt8} (h : Rdr w g bs a 0) :
    Calls Tryd.prog 15 #[.pointer (some ⟨g, 0, none⟩)] w fun e w' => e = .returned (.int .i64 (a : Int)) ∧ w.grownBy w' none :=
  (place_step h).mono fun _ _ ⟨h1, h2⟩ => ⟨by rw [h1]; congr 2; omega, h2⟩
theorem left_eq {w : World} {g a : Nat} {bs : List UInt8} (h : Rdr w g bs a 0) (l : Int) (hl : (bs.length : Int) - (a : Int) = l) :
    Calls Tryd.prog 17 #[.pointer (some ⟨g, 0, none⟩)] w fun e w' => e = .returned (.int .i64 l) ∧ w.grownBy w' none := by subst hl; exact left_step h
theorem take_eq {w : World} {g a n : Nat} {bs : List UInt8} (h : Rdr w g bs a 0) (s : ByteArray) (hn : s.size = n) (hl : a + n ≤ bs.length) (hs : s.data.toList = (bs.drop a).take n) :
    Calls Tryd.prog 11 #[.pointer (some ⟨g, 0, none⟩), .int .i64 (s.size : Int)] w fun e w' => e = .returned (.tuple #[.string s, .nilIface]) ∧ w.grownBy w' (some g) ∧ Rdr w' g bs (a + n) 0 := by
  subst hn
  have := take_ok h s.size hl
  rw [bytes_of_list hs] at this
  exact this
theorem bsum_at (ps : List ByteArray) (k : Nat) (hk : k < ps.length) :
    (bsum (ps.take k)).length + ps[k].size ≤ (bsum ps).length ∧ ps[k].data.toList = ((bsum ps).drop (bsum (ps.take k)).length).take ps[k].size ∧ (bsum (ps.take (k + 1))).length = (bsum (ps.take k)).length + ps[k].size := by
  have h1 : bsum (ps.take (k + 1)) = bsum (ps.take k) ++ ps[k].data.toList := by rw [List.take_succ_eq_append_getElem hk, bsum_snoc]
  have h2 : bsum ps = bsum (ps.take (k + 1)) ++ bsum (ps.drop (k + 1)) := by
    unfold bsum
    rw [← List.flatMap_append, List.take_append_drop]
  refine ⟨?_, ?_, ?_⟩
  · rw [h2, h1, List.length_append, List.length_append, bytes_len]; omega
  · rw [h2, h1, List.append_assoc, List.drop_left, ← bytes_len, List.take_left]
  · rw [h1, List.length_append, bytes_len]
end Go.Proofs.YtndkjlnajoblaaaDoor

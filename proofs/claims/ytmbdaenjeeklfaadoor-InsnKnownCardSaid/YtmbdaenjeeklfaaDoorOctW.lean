/- octets: a new reader, and writers: what each call answers, and what it leaves. -/
import Derived.Test.YtmbdaenjeeklfaaDoorOctD
import Derived.Lib.AppendStr
import Derived.Lib.BufferRead
import Derived.Deep.AppendLies
import Derived.Deep.Onto
import Derived.OwnWalk
namespace Go.Proofs.YtmbdaenjeeklfaaDoor
open Go.RowKit

theorem bytes_len (s : ByteArray) : s.data.toList.length = s.size := by rw [Array.length_toList]; rfl

theorem reader_end (s : ByteArray) (w : World) (hs : s.size ≤ 4611686018427387904) (cap : Nat) (hc : s.size ≤ cap) :
    w.grownBy (((w.alloc (.cells (bytesRow s cap) 5 ((bytesRow s cap).size, (bytesRow s cap).size + 1))).alloc (.cells #[.slice (some ⟨w.heap.size, 0, none⟩) s.size cap, .int .i64 0, .int .i64 0] 87)).drew) none ∧
    Rdr (((w.alloc (.cells (bytesRow s cap) 5 ((bytesRow s cap).size, (bytesRow s cap).size + 1))).alloc (.cells #[.slice (some ⟨w.heap.size, 0, none⟩) s.size cap, .int .i64 0, .int .i64 0] 87)).drew) (w.heap.size + 1) s.data.toList 0 0 := by
  have hsz : s.size = s.data.toList.length := (bytes_len s).symm
  generalize hw1 : w.alloc (.cells (bytesRow s cap) 5 ((bytesRow s cap).size, (bytesRow s cap).size + 1)) = w1
  have h1 : w.grownBy w1 none := by subst hw1; exact only_alloc (only_refl _ _) _
  have hz : w1.heap.size = w.heap.size + 1 := by subst hw1; simp
  have hb : Byts w1 w.heap.size 0 s.data.toList := by
    refine ⟨bytesRow s cap, ((bytesRow s cap).size, (bytesRow s cap).size + 1), ?_, fun j u hj => ?_⟩
    · subst hw1; exact heap_alloc_new w _
    · have hjl : j < s.data.size := by simpa using (List.getElem?_eq_some_iff.1 hj).1
      rw [Nat.zero_add, bytesRow_at s cap j hjl]
      have : s.data[j] = u := by
        have h2 := (List.getElem?_eq_some_iff.1 hj).2
        simpa using h2
      rw [this]
  have hnew := Blk.new w1 87 #[.slice (some ⟨w.heap.size, 0, none⟩) s.size cap, .int .i64 0, .int .i64 0]
  rw [hz] at hnew
  refine ⟨only_drew (only_alloc h1 _), w.heap.size, 0, cap, ?_, ?_, by omega, by omega, by omega⟩
  · rw [← hsz]; exact hnew.drew
  · exact (hb.grown (only_alloc (only_refl _ none) _) (fun e => by cases e)).keep rfl

set_option maxHeartbeats 400000 in
/-- NewReader: a reader of the string's bytes, at its beginning. -/
theorem newReader_any (s : ByteArray) (w : World) (hs : s.size ≤ 4611686018427387904) :
    Calls Tryd.prog 20 #[.string s] w fun e w' => ∃ g, e = .returned (.pointer (some ⟨g, 0, none⟩)) ∧ w.heap.size ≤ g ∧ w.grownBy w' none ∧ Rdr w' g s.data.toList 0 0 := by
  have hcv := fun W : World => run_bytes_of_string (P := Tryd.prog) W 9 63 5 s Tryd.underlying9 Tryd.underlying63 Tryd.underlying5
  have hend := Lib.hid (reader_end s w hs (grownCap w s.size 0 5) (grownCap_ge w s.size 0 5))
  go_enter Tryd.func20, Tryd.ntmps20
  go_wp2
  go_ret
  exact ⟨w.heap.size + 1, rfl, by omega, hend.out⟩

/-! ### WRITERS -/

/-- A block of bytes. -/
def IsU8 (w : World) (i : Nat) : Prop := ∃ cs fr, w.heap[i]? = some (.cells cs 5 fr)
/-- A step that turns no block of w but those in S. -/
structure Turn (S : Nat → Prop) (w w' : World) : Prop where
  os : w'.os = w.os
  tape : w'.tape = w.tape
  output : w'.output = w.output
  size : w.heap.size ≤ w'.heap.size
  block : ∀ i, i < w.heap.size → ¬ S i → w'.heap[i]? = w.heap[i]?
/-- The blocks that a writer at g turns: its own, and bytes from block B on. -/
def WS (B : Nat) (w : World) (g i : Nat) : Prop := i = g ∨ (B ≤ i ∧ IsU8 w i)
theorem Turn.of_only {S : Nat → Prop} {w w' : World} {row : Option Nat} (h : w.grownBy w' row) (hr : ∀ g, row = some g → S g) : Turn S w w' :=
  ⟨h.os, h.tape, h.output, h.size, fun i hi hn => h.block i hi (fun e => hn (hr i e.symm))⟩
theorem Turn.below {S : Nat → Prop} {w w' : World} (h : Turn S w w') {B : Nat} (hB : B ≤ w.heap.size) (hS : ∀ i, S i → B ≤ i) : Below B w w' :=
  ⟨h.os, h.tape, h.output, h.size, fun k hk => h.block k (by omega) (fun hs => by have := hS k hs; omega)⟩
theorem Blk.turn {S : Nat → Prop} {w w' : World} {g : Nat} {t : TypeId} {cs : Array Value} (h : Blk w g t cs) (ht : Turn S w w') (hn : ¬ S g) : Blk w' g t cs := (ht.block g h.lt hn).trans h
theorem Blk.not_u8 {w : World} {g : Nat} {t : TypeId} {cs : Array Value} (h : Blk w g t cs) (ht : t ≠ 5) : ¬ IsU8 w g := by
  rintro ⟨cs', fr, h'⟩
  unfold Blk at h
  rw [h] at h'
  injection h' with h'
  injection h' with _ h2
  exact ht h2

/-- Block g is a writer of the bytes bs; all that it owns lies from block B on. -/
def Wtr (B : Nat) (w : World) (g : Nat) (bs : List UInt8) : Prop :=
  B ≤ g ∧ ∃ v, Blk w g 65 #[v] ∧ w.ownsRow B 5 1 v bs.length (bs.map fun u => .int .u8 (u.toNat : Int))
theorem Wtr.lt {B : Nat} {w : World} {g : Nat} {bs : List UInt8} (h : Wtr B w g bs) : g < w.heap.size := by obtain ⟨_, _, h, _⟩ := h; exact h.lt
theorem own_u8 {w : World} {B n : Nat} {v : Value} {xs : List Value} (h : w.ownsRow B 5 1 v n xs) {k : Nat} (hk : v.ownBlock = some k) : B ≤ k ∧ IsU8 w k := by
  refine ⟨(h.lt k hk).1, ?_⟩
  rcases h.2 with ⟨rfl, _⟩ | ⟨g, cap, cur, rfl, _, hh, _⟩
  · simp [Value.ownBlock] at hk
  · simp [Value.ownBlock] at hk
    subst hk
    exact ⟨_, _, hh⟩
theorem own_shape {w : World} {B n : Nat} {e : TypeId} {size : Nat} {v : Value} {xs : List Value} (h : w.ownsRow B e size v n xs) : ∃ A c, v = .slice A n c := by
  rcases h.2 with ⟨rfl, rfl⟩ | ⟨g, cap, cur, rfl, _⟩
  · exact ⟨_, _, rfl⟩
  · exact ⟨_, _, rfl⟩
theorem Wtr.kept {B : Nat} {w w' : World} {g : Nat} {bs : List UInt8} (h : Wtr B w g bs) (hg : w.grownBy w' none) : Wtr B w' g bs := by
  obtain ⟨hB, v, hb, ho⟩ := h
  exact ⟨hB, v, hb.kept hg, ho.kept hg (by cases hv : v.ownBlock <;> simp)⟩

theorem u8_info : (Tryd.prog.info? 5).map (fun i => (i.zero, i.size, i.bytes)) = some (some (.int .u8 0), 1, 1) := by kernel_rfl

set_option maxHeartbeats 400000 in
theorem newWriter_any (B : Nat) (w : World) (hB : B ≤ w.heap.size) :
    Calls Tryd.prog 9 #[] w fun e w' => ∃ g, e = .returned (.pointer (some ⟨g, 0, none⟩)) ∧ w.heap.size ≤ g ∧ w.grownBy w' none ∧ Wtr B w' g [] := by
  go_enter Tryd.func9, Tryd.ntmps9
  go_wp2
  go_ret
  exact ⟨w.heap.size, rfl, Nat.le_refl _, only_alloc (only_refl _ _) _, hB, .slice none 0 0, Blk.new w _ _, World.ownsRow_nil _ _ _ _⟩

theorem wbyte_none (b : Value) (w : World) :
    Calls Tryd.prog 34 #[.pointer none, b] w fun e w' => e = .returned (.tuple #[]) ∧ w = w' := by
  go_enter Tryd.func34, Tryd.ntmps34
  go_wp2
  go_end0
  exact ⟨rfl, rfl⟩
theorem wput_none (s : ByteArray) (w : World) :
    Calls Tryd.prog 10 #[.pointer none, .string s] w fun e w' => e = .returned (.tuple #[]) ∧ w = w' := by
  go_enter Tryd.func10, Tryd.ntmps10
  go_wp2
  go_end0
  exact ⟨rfl, rfl⟩
theorem wlen_none (w : World) :
    Calls Tryd.prog 27 #[.pointer none] w fun e w' => e = .returned (.int .i64 0) ∧ w = w' := by
  go_enter Tryd.func27, Tryd.ntmps27
  go_wp2
  go_ret
  exact ⟨rfl, rfl⟩
theorem wtext_none (w : World) :
    Calls Tryd.prog 14 #[.pointer none] w fun e w' => e = .returned (.string ⟨#[]⟩) ∧ w = w' := by
  go_enter Tryd.func14, Tryd.ntmps14
  go_wp2
  go_ret
  exact ⟨rfl, rfl⟩

/-- Behind an append the row is stored back into the writer's block. -/
theorem write_end {B g n m : Nat} {w w1 : World} {v v' : Value} {xs ys : List Value} {bs : List UInt8} (hB : B ≤ g) (hb : Blk w g 65 #[v]) (ho : w.ownsRow B 5 1 v n xs) (hg : w.grownBy w1 v.ownBlock)
    (ho1 : w1.ownsRow B 5 1 v' (n + m) ys) (hys : ys = bs.map fun u => .int .u8 (u.toNat : Int)) (hn : n + m = bs.length) (k : Nat) :
    Blk w1 g 65 #[v] ∧ Wtr B ((w1.drewN k).setCell ⟨g, 0, none⟩ v') g bs ∧ Turn (WS B w g) w ((w1.drewN k).setCell ⟨g, 0, none⟩ v') := by
  have hne : v.ownBlock ≠ some g := fun e => hb.not_u8 (by decide) (own_u8 ho e).2
  have hb1 : Blk w1 g 65 #[v] := hb.grown hg (fun e => hne e.symm)
  have hne1 : v'.ownBlock ≠ some g := fun e => hb1.not_u8 (by decide) (own_u8 ho1 e).2
  have hs : (w1.drewN k).grownBy ((w1.drewN k).setCell ⟨g, 0, none⟩ v') (some g) := only_setCell (only_refl _ _) rfl _
  refine ⟨hb1, ⟨hB, v', (hb1.drewN k).set_ 0 v', ?_⟩, ?_⟩
  · rw [← hys, ← hn]
    exact World.ownsRow.kept (w := w1.drewN k) ho1 hs (.inr hne1)
  · have h1 : Turn (WS B w g) w w1 := Turn.of_only hg (fun j e => .inr (own_u8 ho e))
    exact ⟨h1.os, h1.tape, h1.output, by simpa [World.setCell] using h1.size, fun i hi hn => (Below.heap_setCell (w1.drewN k) _ _ i (fun e => hn (.inl e))).trans (h1.block i hi hn)⟩

set_option maxRecDepth 100000 in
set_option maxHeartbeats 1000000 in
theorem wput_any {B g : Nat} {w : World} {bs : List UInt8} (h : Wtr B w g bs) (hB : B ≤ w.heap.size) (s : ByteArray) (hl : bs.length + s.size ≤ 1099511627776) :
    Calls Tryd.prog 10 #[.pointer (some ⟨g, 0, none⟩), .string s] w fun e w' => e = .returned (.tuple #[]) ∧ Wtr B w' g (bs ++ s.data.toList) ∧ Turn (WS B w g) w w' := by
  obtain ⟨hBg, v, hb, ho⟩ := h
  have c0 : w.cell? ⟨g, 0, none⟩ = some v := hb.cell 0
  obtain ⟨i0, hi, hz0, hz1, hz2⟩ := info_parts u8_info
  have hend := Lib.hid (fun (w1 : World) v' k hg ho1 => write_end (w1 := w1) (v' := v') (m := s.size) (ys := (bs.map fun u => Value.int .u8 (u.toNat : Int)) ++ Lib.strCells s) (bs := bs ++ s.data.toList) hBg hb ho hg ho1 (by rw [List.map_append]; rfl) (by rw [List.length_append, bytes_len]) k)
  have H3 : Hid (bs.length + s.size ≤ maxLen) := by unfold maxLen; show _ ≤ _; omega
  have H4 : Hid (bs.length + s.size ≤ 140737488355328) := by show _ ≤ _; omega
  clear hl
  go_enter Tryd.func10, Tryd.ntmps10
  go_wp2_with (at_builtin; go_must (refine Lib.wpList_append_own_string _ rfl _ _ 63 9 rfl B 5 i0 Tryd.underlying63 Tryd.underlying9 hi hz0 hz1 hz2 _ _ _ rfl ho s rfl H3.out H4.out hB ?_); intro v' w1 ho1 hg1 _; obtain ⟨A, c, hv⟩ := own_shape ho1; subst hv; have hk := (hend.out w1 _ 0 hg1 ho1).1; have k0 : w1.cell? ⟨g, 0, none⟩ = some v := hk.cell 0; have k1 := hk.frozen 0; clear hk)
  go_end0
  obtain ⟨_, e1, e2⟩ := hend.out w1 _ 0 hg1 ho1
  exact ⟨rfl, e1, e2⟩

set_option maxRecDepth 100000 in
set_option maxHeartbeats 1000000 in
theorem wbyte_any {B g : Nat} {w : World} {bs : List UInt8} (h : Wtr B w g bs) (hB : B ≤ w.heap.size) (u : UInt8) (hl : bs.length + 1 ≤ 1099511627776) :
    Calls Tryd.prog 34 #[.pointer (some ⟨g, 0, none⟩), .int .u8 (u.toNat : Int)] w fun e w' => e = .returned (.tuple #[]) ∧ Wtr B w' g (bs ++ [u]) ∧ Turn (WS B w g) w w' := by
  have hgl := h.lt
  have hW : Wtr B (w.alloc (.cells #[.int .u8 (u.toNat : Int)] 5)) g bs := h.kept (only_alloc (only_refl _ _) _)
  have h0 : w.grownBy (w.alloc (.cells #[.int .u8 (u.toNat : Int)] 5)) none := only_alloc (only_refl _ _) _
  have hT : ∀ w2, Turn (WS B (w.alloc (.cells #[.int .u8 (u.toNat : Int)] 5)) g) (w.alloc (.cells #[.int .u8 (u.toNat : Int)] 5)) w2 → Turn (WS B w g) w w2 := fun w2 ht =>
    ⟨ht.os.trans h0.os, ht.tape.trans h0.tape, ht.output.trans h0.output, Nat.le_trans h0.size ht.size, fun i hi hn => by
      have hi' : (w.alloc (.cells #[.int .u8 (u.toNat : Int)] 5)).heap[i]? = w.heap[i]? := h0.block i hi (fun e => by cases e)
      refine (ht.block i (Nat.lt_of_lt_of_le hi h0.size) (fun hs => hn ?_)).trans hi'
      rcases hs with rfl | ⟨h1, cs, fr, h2⟩
      · exact .inl rfl
      · exact .inr ⟨h1, cs, fr, hi'.symm.trans h2⟩⟩
  have hB' : B ≤ (w.alloc (.cells #[.int .u8 (u.toNat : Int)] 5)).heap.size := by simp; omega
  obtain ⟨hBg, v, hb0, _⟩ := h
  have c0 : w.cell? ⟨g, 0, none⟩ = some v := hb0.cell 0
  obtain ⟨_, v2, hb, ho⟩ := hW
  obtain rfl : v = v2 := by
    have h3 := (hb0.kept h0).symm.trans hb
    injection h3 with h3
    injection h3 with h3
    injection h3 with h3
    injection h3
  obtain ⟨i0, hi, hz0, hz1, hz2⟩ := info_parts u8_info
  have H3 : Hid (bs.length + 1 ≤ maxLen) := by unfold maxLen; show _ ≤ _; omega
  have H4 : Hid ((bs.length + 1) * 1 ≤ 140737488355328) := by show _ ≤ _; omega
  have hc1 : ∀ j x, [Value.int .u8 (u.toNat : Int)][j]? = some x → (w.alloc (.cells #[.int .u8 (u.toNat : Int)] 5)).cell? ((⟨w.heap.size, 0, none⟩ : Addr).add j) = some x := cell_one_new _ _ _
  clear hl
  have hend := Lib.hid (fun (w1 : World) v' k hg ho1 => write_end (w1 := w1) (v' := v') (m := 1) (ys := (bs.map fun u => Value.int .u8 (u.toNat : Int)) ++ [Value.int .u8 (u.toNat : Int)]) (bs := bs ++ [u]) hBg hb ho hg ho1 (by rw [List.map_append]; rfl) (by rw [List.length_append]; rfl) k)
  have HT := Lib.hid hT
  clear hT h0 hb0
  go_enter Tryd.func34, Tryd.ntmps34
  go_wp2_with (at_builtin; go_loud (refine wpList_append_own _ rfl _ _ 63 rfl B 5 i0 (.int .u8 0) 1 1 Tryd.underlying63 hi hz0 hz1 hz2 rfl (by decide) _ _ _ rfl ho ⟨w.heap.size, 0, none⟩ 1 1 [.int .u8 (u.toNat : Int)] rfl rfl hc1 (by simp [Value.oneCell']) H3.out H4.out hB' ?_); intro v' w1 ho1 hg1 _; obtain ⟨A, c, hv⟩ := own_shape ho1; subst hv; have hk := (hend.out w1 _ 0 hg1 ho1).1; have k0 : w1.cell? ⟨g, 0, none⟩ = some v := hk.cell 0; have k1 := hk.frozen 0; clear hk)
  go_end0
  obtain ⟨_, e1, e2⟩ := hend.out w1 _ 0 hg1 ho1
  exact ⟨rfl, e1, HT.out _ e2⟩

set_option maxHeartbeats 400000 in
theorem wlen_any {B g : Nat} {w : World} {bs : List UInt8} (h : Wtr B w g bs) :
    Calls Tryd.prog 27 #[.pointer (some ⟨g, 0, none⟩)] w fun e w' => e = .returned (.int .i64 (bs.length : Int)) ∧ w = w' := by
  obtain ⟨_, v, hb, ho⟩ := h
  obtain ⟨A, c, rfl⟩ := own_shape ho
  have c0 : w.cell? ⟨g, 0, none⟩ = some (.slice A bs.length c) := hb.cell 0
  clear hb ho
  go_enter Tryd.func27, Tryd.ntmps27
  go_wp2
  go_ret
  exact ⟨rfl, rfl⟩

theorem own_string {w : World} {B : Nat} {v : Value} {bs : List UInt8} (ho : w.ownsRow B 5 1 v bs.length (bs.map fun u => .int .u8 (u.toNat : Int))) :
    (convert 63 9 v).run Tryd.prog w = .ok (.string ⟨bs.toArray⟩) w := by
  rcases ho.2 with ⟨rfl, h0⟩ | ⟨g, cap, cur, rfl, _⟩
  · obtain rfl : bs = [] := List.eq_nil_of_length_eq_zero h0
    exact Lib.run_convert_nil_bytes w _ _ _ 0 Tryd.underlying63 Tryd.underlying5 Tryd.underlying9
  · have hc := ho.cells (g := g) rfl
    refine run_convert_bytes_back w _ _ _ ⟨g, 0, none⟩ cap bs Tryd.underlying63 Tryd.underlying5 Tryd.underlying9 fun j hj => ?_
    exact hc j _ (by simp [List.getElem?_eq_getElem hj])

set_option maxHeartbeats 400000 in
theorem wtext_any {B g : Nat} {w : World} {bs : List UInt8} (h : Wtr B w g bs) :
    Calls Tryd.prog 14 #[.pointer (some ⟨g, 0, none⟩)] w fun e w' => e = .returned (.string ⟨bs.toArray⟩) ∧ w = w' := by
  obtain ⟨_, v, hb, ho⟩ := h
  have hcv := own_string ho
  obtain ⟨A, c, rfl⟩ := own_shape ho
  have c0 : w.cell? ⟨g, 0, none⟩ = some (.slice A bs.length c) := hb.cell 0
  clear hb ho
  go_enter Tryd.func14, Tryd.ntmps14
  go_wp2
  go_ret
  exact ⟨rfl, rfl⟩
end Go.Proofs.YtmbdaenjeeklfaaDoor

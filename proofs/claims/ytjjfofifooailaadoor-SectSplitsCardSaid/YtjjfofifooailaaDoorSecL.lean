/- colloquylaw03: rest, fails; Join of texts that are too long; Split of what was joined, and of what is wrong. -/
import Derived.Test.YtjjfofifooailaaDoorSecP
import Derived.Test.YtjjfofifooailaaDoorSecJ
import Derived.Test.YtjjfofifooailaaDoorSecD
namespace Go.Proofs.YtjjfofifooailaaDoor
open Go.RowKit

/-- What stood before, and what has come. -/
theorem St.join {w0 w w' : World} {rs rs' : List RD} {fs fs' : List FD} (h : St w0 w rs fs) (k : St w w' rs' fs') : St w0 w' (rs' ++ rs) (fs' ++ fs) := by
  have h' := h.none_ k.step
  refine ⟨k.err, h.err0, h'.step, fun r hr => ?_, ?_, fun f hf => ?_⟩
  · rcases List.mem_append.1 hr with hr | hr
    · exact ⟨Nat.le_trans h.step.size (k.rdr r hr).1, (k.rdr r hr).2⟩
    · exact h'.rdr r hr
  · rw [List.map_append, List.nodup_append]
    refine ⟨k.apart, h.apart, fun a ha c hc e => ?_⟩
    obtain ⟨r, hr, rfl⟩ := List.mem_map.1 ha
    obtain ⟨r', hr', rfl⟩ := List.mem_map.1 hc
    have h1 := (k.rdr r hr).1
    have h2 := h.lt hr'
    omega
  · rcases List.mem_append.1 hf with hf | hf
    · exact k.flt f hf
    · exact h'.flt f hf

set_option maxRecDepth 100000 in
set_option maxHeartbeats 2000000 in
theorem join_long (t1 t2 t3 : ByteArray) (h : 65536 < t1.size ∨ 65536 < t2.size ∨ 65536 < t3.size) (w : World) :
    Calls Tryd.prog 13 #[.agg #[.string t1, .string t2, .string t3]] w fun e w' => e = .returned (.tuple #[.string ⟨#[]⟩, .int .i64 4]) ∧ w.grownBy w' none := by
  have a1 : (0 : Int) ≤ (t1.size : Int) := by omega
  have a2 : (0 : Int) ≤ (t2.size : Int) := by omega
  have a3 : (0 : Int) ≤ (t3.size : Int) := by omega
  have hd : 65536 < (t1.size : Int) ∨ ((t1.size : Int) ≤ 65536 ∧ 65536 < (t2.size : Int)) ∨ ((t1.size : Int) ≤ 65536 ∧ (t2.size : Int) ≤ 65536 ∧ 65536 < (t3.size : Int)) := by omega
  have i0 := at3_0 t1 t2 t3
  have i1 := at3_1 t1 t2 t3
  have i2 := at3_2 t1 t2 t3
  clear h
  obtain ⟨z1, e1⟩ : ∃ z : Int, (t1.size : Int) = z := ⟨_, rfl⟩
  obtain ⟨z2, e2⟩ : ∃ z : Int, (t2.size : Int) = z := ⟨_, rfl⟩
  obtain ⟨z3, e3⟩ : ∃ z : Int, (t3.size : Int) = z := ⟨_, rfl⟩
  rw [e1, e2, e3] at hd
  rw [e1] at a1
  rw [e2] at a2
  rw [e3] at a3
  go_enter Tryd.func13, Tryd.ntmps13
  rcases hd with h1 | ⟨h1, h2⟩ | ⟨h1, h2, h3⟩
  · go_wp2_with fail
    refine wp_loop_rounds 4 ?_
    rw [rounds_succ]
    go_wp2_with fail
    go_ret2
    exact ⟨rfl, only_alloc (only_refl _ _) _⟩
  · go_wp2_with fail
    refine wp_loop_rounds 4 ?_
    rw [rounds_succ]
    go_wp2_with fail
    rw [rounds_succ]
    go_wp2_with fail
    go_ret2
    exact ⟨rfl, only_alloc (only_refl _ _) _⟩
  · go_wp2_with fail
    refine wp_loop_rounds 4 ?_
    rw [rounds_succ]
    go_wp2_with fail
    rw [rounds_succ]
    go_wp2_with fail
    rw [rounds_succ]
    go_wp2_with fail
    go_ret2
    exact ⟨rfl, only_alloc (only_refl _ _) _⟩

set_option maxRecDepth 100000 in
set_option maxHeartbeats 2000000 in
/-- What is left of a reader. -/
theorem rest_any {w : World} {g a bg : Nat} {bs : List UInt8} (h : Rdr w g bs a bg) (p : Int) (hp : (bg : Int) + (a : Int) = p) (t : ByteArray) (ht : bs.drop a = t.data.toList) :
    Calls Tryd.prog 15 #[.pointer (some ⟨g, 0, none⟩)] w fun e w' => e = .returned (.tuple #[.string t, .int .i64 p]) ∧ w.grownBy w' (some g) ∧ Rdr w' g bs bs.length bg := by
  have hle : a ≤ bs.length := h.le
  have HP := place_step h
  rw [hp] at HP
  have HL := fun (w1 : World) (s : Rdr w1 g bs a bg) => left_step s
  have HT := fun (w1 : World) (s : Rdr w1 g bs a bg) => take_ok s (bs.length - a) (show a + (bs.length - a) ≤ bs.length by omega)
  have ht' : (bs.drop a).take (bs.length - a) = bs.drop a := List.take_of_length_le (by rw [List.length_drop]; omega)
  have hn : ((bs.length - a : Nat) : Int) = (bs.length : Int) - (a : Int) := by omega
  have he : a + (bs.length - a) = bs.length := by omega
  rw [ht', hn, he, bytes_of_list ht.symm] at HT
  clear ht ht' hn he hle
  generalize (bs.length : Int) - (a : Int) = l at *
  go_enter Tryd.func15, Tryd.ntmps15
  go_wp2_with fail
  refine HP.mono ?_
  clear HP
  rintro e w1 ⟨rfl, g1⟩
  have s1 := h.kept g1
  go_wp2_with fail
  refine (HL _ s1).mono ?_
  clear HL
  rintro e w2 ⟨rfl, g2⟩
  have s2 := s1.kept g2
  go_wp2_with fail
  refine (HT _ s2).mono ?_
  clear HT
  rintro e w3 ⟨rfl, g3, r3⟩
  have HG := Lib.hid (only_trans (only_weak (only_trans g1 g2) _) g3)
  have HR := Lib.hid r3
  clear h s1 s2 g1 g2 g3 r3
  go_wp2_with fail
  go_ret2
  exact ⟨rfl, HG.out, HR.out⟩
/-- The same at a state: the text of a reader that has just come; it is dropped then. -/
theorem rest_st {w0 w : World} {rs : List RD} {fs : List FD} {g bg : Nat} {t : ByteArray} (s : St w0 w (⟨g, t.data.toList, 0, bg⟩ :: rs) fs) (p : Int) (hp : (bg : Int) = p) :
    Calls Tryd.prog 15 #[.pointer (some ⟨g, 0, none⟩)] w fun e w' => e = .returned (.tuple #[.string t, .int .i64 p]) ∧ St w0 w' rs fs ∧ ∀ k ty cs, ty ≠ 91 → Blk w k ty cs → Blk w' k ty cs := by
  obtain ⟨cs0, hb⟩ := s.head.blk
  refine (rest_any s.head p (by rw [← hp]; simp) t (by simp)).mono fun _ _ ⟨h1, h2, h3⟩ => ⟨h1, (s.move h2 h3).tail, fun k ty cs hne hk => hk.grown h2 (fun e => Blk.ne_ hk hb hne (by injection e))⟩

/-- Split of what was joined. -/
theorem split_joined (t1 t2 t3 t : ByteArray) (h1 : t1.size ≤ 65536) (h2 : t2.size ≤ 65536) (h3 : t3.size ≤ 65536) (ht : t.data.toList = joined t1.data.toList t2.data.toList t3.data.toList) (w : World) (hE : ErrType w) :
    Calls Tryd.prog 14 #[.string t] w fun e w' => ∃ q1 q2 q3, e = .returned (.tuple #[.agg #[.pointer (some ⟨q1, 0, none⟩), .pointer (some ⟨q2, 0, none⟩), .pointer (some ⟨q3, 0, none⟩)], .nilIface]) ∧
      St w w' [⟨q1, t1.data.toList, 0, (partsOf t1.data.toList t2.data.toList t3.data.toList).p1⟩, ⟨q2, t2.data.toList, 0, (partsOf t1.data.toList t2.data.toList t3.data.toList).p2⟩, ⟨q3, t3.data.toList, 0, (partsOf t1.data.toList t2.data.toList t3.data.toList).p3⟩] [] := by
  obtain ⟨hok, c1, c2, c3⟩ := joined_ok t1.data.toList t2.data.toList t3.data.toList (by rw [bytes_len]; exact h1) (by rw [bytes_len]; exact h2) (by rw [bytes_len]; exact h3)
  have hsz : t.size ≤ 4611686018427387904 := by
    rw [← bytes_len, ht]
    have e1 := bytes_len t1
    have e2 := bytes_len t2
    have e3 := bytes_len t3
    have l1 := sev_short h1
    have l2 := sev_short h2
    have l3 := sev_short h3
    have k1 := l1
    have k2 := l2
    have k3 := l3
    rw [← e1] at l1
    rw [← e2] at l2
    rw [← e3] at l3
    simp only [joined, List.length_append, sec_len]
    simp [hd5]
    omega
  refine (split_any t hsz w hE).mono ?_
  rw [ht]
  rintro e w' (⟨x, q1, q2, q3, hx, rfl, hs⟩ | ⟨fb, c, y, hf, _, _⟩)
  · obtain rfl := split_one hx hok
    rw [c1, c2, c3] at hs
    exact ⟨q1, q2, q3, rfl, hs⟩
  · exact (split_not hf hok).elim
/-- Split of what is wrong. -/
theorem split_wrong (t : ByteArray) (hsz : t.size ≤ 4611686018427387904) {c y : Int} (hf : SplitFault t.data.toList c y) (w : World) (hE : ErrType w) :
    Calls Tryd.prog 14 #[.string t] w fun e w' => ∃ fb, e = .returned (.tuple #[.agg #[.pointer none, .pointer none, .pointer none], .iface 74 (.pointer (some ⟨fb, 0, none⟩))]) ∧ St w w' [] [⟨fb, c, y⟩] := by
  refine (split_any t hsz w hE).mono ?_
  rintro e w' (⟨x, q1, q2, q3, hx, rfl, hs⟩ | ⟨fb, c', y', hf', rfl, hs⟩)
  · exact (split_not hf hx).elim
  · obtain ⟨rfl, rfl⟩ := splitf_one hf' hf
    exact ⟨fb, rfl, hs⟩

set_option maxRecDepth 100000 in
set_option maxHeartbeats 2000000 in
theorem fails_any (t : ByteArray) (hsz : t.size ≤ 4611686018427387904) {c y : Int} (hf : SplitFault t.data.toList c y) (w : World) (hE : ErrType w) :
    Calls Tryd.prog 17 #[.string t, .int .i64 c, .int .i64 y] w fun e w' => e = .returned (.bool true) ∧ w.grownBy w' none := by
  have HS := split_wrong t hsz hf w hE
  have hc := split_code hf
  have HT := fun (w1 : World) (fb : Nat) (s : St w w1 [] [⟨fb, c, y⟩]) => told_hit fb c y w1 s.err (s.flt ⟨fb, c, y⟩ (List.mem_singleton.2 rfl)) hc
  clear hf hc hsz
  go_enter Tryd.func17, Tryd.ntmps17
  go_wp2_with fail
  refine HS.mono ?_
  clear HS
  rintro e w1 ⟨fb, rfl, s⟩
  have B := Blk.new w1 37 #[.pointer none, .pointer none, .pointer none]
  have g1 := only_trans s.step (only_alloc (only_refl w1 none) (.cells #[.pointer none, .pointer none, .pointer none] 37))
  go_wp2_with fail
  refine (HT _ fb (s.none_ (only_alloc (only_refl _ _) _))).mono ?_
  clear HT
  rintro e w2 ⟨rfl, g2⟩
  have B2 := B.kept g2
  have c0 := B2.cell 0
  have c1 := B2.cell 1
  have c2 := B2.cell 2
  have G := Lib.hid (only_trans g1 g2)
  clear s g1 g2 B B2
  go_wp2_with fail
  go_ret
  exact ⟨rfl, G.out⟩
end Go.Proofs.YtjjfofifooailaaDoor

/- OctetsKnown: the call returns true, and turns nothing that was there. -/
import Derived.Test.YtndkjlnajoblaaaDoorWorks
import Derived.Deep.RegionHeld3
namespace Go.Proofs.YtndkjlnajoblaaaDoor
open Go.RowKit

/-- A fault that was laid in a block of its own is one more fault. -/
theorem St.laid {w0 w : World} {rs : List RD} {fs : List FD} (h : St w0 w rs fs) (c a : Int) : St w0 (w.alloc (.cells #[.int .i64 c, .int .i64 a] 36)) rs (⟨w.heap.size, c, a⟩ :: fs) :=
  h.fault (only_alloc (only_refl _ _) _) (Blk.new w _ _)

theorem null_cells {w0 w : World} {rs : List RD} {f1 f2 f3 n : Nat} (s : St w0 w rs [⟨n, 1, 0⟩, ⟨f3, 1, 0⟩, ⟨f2, 1, 0⟩, ⟨f1, 1, 0⟩]) : w.cell? ⟨n, 0, none⟩ = some (.int .i64 1) ∧ w.cell? ⟨n, 1, none⟩ = some (.int .i64 0) :=
  ⟨Blk.cell (s.flt ⟨n, 1, 0⟩ (by simp)) 0, Blk.cell (s.flt ⟨n, 1, 0⟩ (by simp)) 1⟩
theorem null_cells' {w0 w : World} {rs : List RD} {f1 f2 f3 f4 n : Nat} {a : Int} (s : St w0 w rs [⟨f4, 1, a⟩, ⟨n, 1, 0⟩, ⟨f3, 1, 0⟩, ⟨f2, 1, 0⟩, ⟨f1, 1, 0⟩]) : w.cell? ⟨n, 0, none⟩ = some (.int .i64 1) ∧ w.cell? ⟨n, 1, none⟩ = some (.int .i64 0) :=
  ⟨Blk.cell (s.flt ⟨n, 1, 0⟩ (by simp)) 0, Blk.cell (s.flt ⟨n, 1, 0⟩ (by simp)) 1⟩
theorem told_st {w0 w : World} {rs : List RD} {fs : List FD} (fb : Nat) (s : St w0 w rs fs) (hm : (⟨fb, 1, 0⟩ : FD) ∈ fs) :
    Calls Tryd.prog 10 #[.iface 66 (.pointer (some ⟨fb, 0, none⟩)), .agg #[.int .i64 1, .int .i64 0]] w fun e w' => e = .returned (.bool true) ∧ w.grownBy w' none :=
  told_hit fb 1 0 w s.err (s.flt ⟨fb, 1, 0⟩ hm) rfl
theorem told_st0 {w0 w : World} {rs : List RD} {fs : List FD} {fb : Nat} (s : St w0 w rs (⟨fb, 1, 0⟩ :: fs)) : Calls Tryd.prog 10 #[.iface 66 (.pointer (some ⟨fb, 0, none⟩)), .agg #[.int .i64 1, .int .i64 0]] w fun e w' => e = .returned (.bool true) ∧ w.grownBy w' none := told_st fb s (by simp)
theorem told_st1 {w0 w : World} {rs : List RD} {fs : List FD} {x0 : FD} {fb : Nat} (s : St w0 w rs (x0 :: ⟨fb, 1, 0⟩ :: fs)) : Calls Tryd.prog 10 #[.iface 66 (.pointer (some ⟨fb, 0, none⟩)), .agg #[.int .i64 1, .int .i64 0]] w fun e w' => e = .returned (.bool true) ∧ w.grownBy w' none := told_st fb s (by simp)
theorem told_st2 {w0 w : World} {rs : List RD} {fs : List FD} {x0 x1 : FD} {fb : Nat} (s : St w0 w rs (x0 :: x1 :: ⟨fb, 1, 0⟩ :: fs)) : Calls Tryd.prog 10 #[.iface 66 (.pointer (some ⟨fb, 0, none⟩)), .agg #[.int .i64 1, .int .i64 0]] w fun e w' => e = .returned (.bool true) ∧ w.grownBy w' none := told_st fb s (by simp)
theorem told_st3 {w0 w : World} {rs : List RD} {fs : List FD} {x0 x1 x2 : FD} {fb : Nat} (s : St w0 w rs (x0 :: x1 :: x2 :: ⟨fb, 1, 0⟩ :: fs)) : Calls Tryd.prog 10 #[.iface 66 (.pointer (some ⟨fb, 0, none⟩)), .agg #[.int .i64 1, .int .i64 0]] w fun e w' => e = .returned (.bool true) ∧ w.grownBy w' none := told_st fb s (by simp)
theorem end_st {w0 w : World} {rs : List RD} {fs : List FD} {g bg : Nat} (s : St w0 w (⟨g, [], 0, bg⟩ :: rs) fs) :
    Calls Tryd.prog 19 #[.pointer (some ⟨g, 0, none⟩)] w fun e w' => e = .returned .nilIface ∧ w.grownBy w' none := end_ok s.head rfl
theorem place_st {w0 w : World} {rs : List RD} {fs : List FD} {g : Nat} {bs : List UInt8} (s : St w0 w (⟨g, bs, 0, 0⟩ :: rs) fs) :
    Calls Tryd.prog 15 #[.pointer (some ⟨g, 0, none⟩)] w fun e w' => e = .returned (.int .i64 0) ∧ w.grownBy w' none := place_step s.head

set_option maxRecDepth 100000 in
set_option maxHeartbeats 4000000 in
theorem known_any (w : World) (hE : ErrType w) :
    Calls Tryd.prog 6 #[] w fun e w' => e = .returned (.bool true) ∧ w.grownBy w' none := by
  have s0 := St.start hE
  go_enter Tryd.func6, Tryd.ntmps6
  go_wp2_with fail
  have H : Calls Tryd.prog 23 #[.pointer none, .int .u8 1] _ (fun e w' => e = .returned (.tuple #[]) ∧ _ = w') := wbyte_none _ w
  refine H.mono ?_
  clear H
  rintro e _ ⟨rfl, rfl⟩
  go_wp2_with fail
  have H : Calls Tryd.prog 24 #[.pointer none, .string ⟨#[97]⟩] _ (fun e w' => e = .returned (.tuple #[]) ∧ _ = w') := wput_none _ w
  refine H.mono ?_
  clear H
  rintro e _ ⟨rfl, rfl⟩
  go_wp2_with fail
  have H : Calls Tryd.prog 7 #[.string ⟨#[]⟩] _ (fun e w' => ∃ g, e = .returned (.pointer (some ⟨g, 0, none⟩)) ∧ w.heap.size ≤ g ∧ World.grownBy _ w' none ∧ Rdr w' g [] 0 0) := newReader_any ⟨#[]⟩ w (by decide)
  refine H.mono ?_
  clear H
  rintro e w1 ⟨g1, rfl, hf, hs, hr⟩
  have s1 := s0.new hf hs hr
  clear hf hs hr s0
  go_wp2_with fail
  have H : Calls Tryd.prog 8 #[.pointer none] _ (fun e w' => ToldFault (.int .u8 0) 1 0 _ e w') := byte_none w1
  refine H.mono ?_
  clear H
  rintro e w2 ⟨fb1, rfl, hf, _, hs⟩
  have s2 := s1.fault hs hf
  clear hs hf s1
  go_wp2_with fail
  have H : Calls Tryd.prog 11 #[.pointer none, .int .i64 0] _ (fun e w' => ToldFault (.string ⟨#[]⟩) 1 0 _ e w') := take_none 0 w2
  refine H.mono ?_
  clear H
  rintro e w3 ⟨fb2, rfl, hf, _, hs⟩
  have s3 := s2.fault hs hf
  clear hs hf s2
  go_wp2_with fail
  have H : Calls Tryd.prog 13 #[.pointer none, .int .i64 0] _ (fun e w' => ToldFault (.pointer none) 1 0 _ e w') := part_none 0 w3
  refine H.mono ?_
  clear H
  rintro e w4 ⟨fb3, rfl, hf, _, hs⟩
  have s4 := s3.fault hs hf
  clear hs hf s3
  go_wp2_with fail
  have H : Calls Tryd.prog 11 #[.pointer (some ⟨g1, 0, none⟩), .int .i64 0] _ (fun e w' => e = .returned (.tuple #[.string ⟨#[]⟩, .nilIface]) ∧ World.grownBy _ w' (some g1) ∧ Rdr w' g1 [] 0 0) := take_ok s4.head 0 (by simp)
  refine H.mono ?_
  clear H
  rintro e w5 ⟨rfl, hs, hr⟩
  have s5 := s4.move hs hr
  clear hs hr s4
  go_wp2_with fail
  have H : Calls Tryd.prog 13 #[.pointer (some ⟨g1, 0, none⟩), .int .i64 0] _ (fun e w' => PartOk g1 [] 0 0 0 _ e w') := part_ok s5.head 0 (by simp)
  refine H.mono ?_
  clear H
  rintro e w6 ⟨g2, rfl, hz, hs, hr, hp⟩
  have s6 : St w w6 [⟨g2, [], 0, 0⟩, ⟨g1, [], 0, 0⟩] [⟨fb3, 1, 0⟩, ⟨fb2, 1, 0⟩, ⟨fb1, 1, 0⟩] := s5.part hz hs hr hp
  have s7 := s6.laid 1 0
  clear hz hs hr hp s5 s6
  go_wp2_with fail
  generalize hW : w6.alloc (Obj.cells #[Value.int IntKind.i64 1, Value.int IntKind.i64 0] 36) = W7 at *
  have s : St w W7.drew [⟨g2, [], 0, 0⟩, ⟨g1, [], 0, 0⟩] [⟨w6.heap.size, 1, 0⟩, ⟨fb3, 1, 0⟩, ⟨fb2, 1, 0⟩, ⟨fb1, 1, 0⟩] := s7.none_ (only_drew (only_refl _ _))
  clear s7 hW
  simp only [List.append_eq, List.cons_append, List.nil_append]
  go_region_held3 (fun w' => w'.cell? ⟨w6.heap.size, 0, none⟩ = some (.int .i64 1) ∧ w'.cell? ⟨w6.heap.size, 1, none⟩ = some (.int .i64 0)) (first | exact null_cells s | exact null_cells' s) (first
    | (go_at_call 21; ((with_reducible refine (works_any _ s.err).mono ?_); rintro e W8 ⟨rfl, hs⟩); replace s := s.none_ hs; clear hs)
    | (go_at_call 10; ((with_reducible refine (told_st3 s).mono ?_); rintro e W8 ⟨rfl, hs⟩); replace s := s.none_ hs; clear hs)
    | (go_at_call 10; ((with_reducible refine (told_st2 s).mono ?_); rintro e W8 ⟨rfl, hs⟩); replace s := s.none_ hs; clear hs)
    | (go_at_call 10; ((with_reducible refine (told_st1 s).mono ?_); rintro e W8 ⟨rfl, hs⟩); replace s := s.none_ hs; clear hs)
    | (go_at_call 19; ((with_reducible refine (end_none _).mono ?_); rintro e W8 ⟨fb4, rfl, hf, _, hs⟩); replace s := s.fault hs hf; clear hs hf)
    | (go_at_call 10; ((with_reducible refine (told_st0 s).mono ?_); rintro e W8 ⟨rfl, hs⟩); replace s := s.none_ hs; clear hs)
    | (go_at_call 15; ((with_reducible refine (place_none _).mono ?_); rintro e W8 ⟨rfl, rfl⟩); skip)
    | (go_at_call 17; ((with_reducible refine (left_none _).mono ?_); rintro e W8 ⟨rfl, rfl⟩); skip)
    | (go_at_call 26; ((with_reducible refine (wtext_none _).mono ?_); rintro e W8 ⟨rfl, rfl⟩); skip)
    | (go_at_call 25; ((with_reducible refine (wlen_none _).mono ?_); rintro e W8 ⟨rfl, rfl⟩); skip)
    | (go_at_call 19; ((with_reducible refine (end_st s).mono ?_); rintro e W8 ⟨rfl, hs⟩); replace s := s.none_ hs; clear hs)
    | (go_at_call 15; ((with_reducible refine (place_st s).mono ?_); rintro e W8 ⟨rfl, hs⟩); replace s := (s.none_ hs).tail; clear hs)
    | (go_at_call 22; ((with_reducible refine (newWriter_any 0 _ (Nat.zero_le _)).mono ?_); rintro e W8 ⟨g5, rfl, _, hs, hw⟩); replace s := s.none_ hs; clear hs)
    | (go_at_call 26; ((with_reducible refine (wtext_any hw).mono ?_); rintro e W8 ⟨rfl, rfl⟩); skip))
  all_goals (try go_wp2)
  all_goals (go_ret; exact ⟨rfl, s.step⟩)
end Go.Proofs.YtndkjlnajoblaaaDoor

/- sect: Split: of whatever bytes, readers of the three texts, or the first fault. -/
import Derived.Test.YtjjfofifooailaaDoorSecS
namespace Go.Proofs.YtjjfofifooailaaDoor
open Go.RowKit

theorem St.perm {w0 w : World} {rs rs' : List RD} {fs : List FD} (h : St w0 w rs fs) (hp : rs.Perm rs') : St w0 w rs' fs :=
  ⟨h.err, h.err0, h.step, fun r hr => h.rdr r (hp.mem_iff.2 hr), (hp.map RD.g).nodup_iff.1 h.apart, h.flt⟩

theorem arr_size : (Tryd.prog.info? 37).map (·.size) = some 3 := by kernel_rfl
/-- Three cells are set. -/
theorem set3 {w0 W : World} {rs : List RD} {fs : List FD} {i : Nat} {u1 u2 u3 : Value} (h : St w0 W rs fs) (hi : w0.heap.size ≤ i) (hb : Blk W i 37 #[u1, u2, u3]) (v1 v2 v3 : Value) :
    Blk (((W.setCell ⟨i, 0, none⟩ v1).setCell ⟨i, 1, none⟩ v2).setCell ⟨i, 2, none⟩ v3) i 37 #[v1, v2, v3] ∧ St w0 (((W.setCell ⟨i, 0, none⟩ v1).setCell ⟨i, 1, none⟩ v2).setCell ⟨i, 2, none⟩ v3) rs fs :=
  ⟨((hb.set_ 0 v1).set_ 1 v2).set_ 2 v3, h.turn (only_setCell (only_setCell (only_setCell (only_refl W _) (p := ⟨i, 0, none⟩) rfl v1) (p := ⟨i, 1, none⟩) rfl v2) (p := ⟨i, 2, none⟩) rfl v3) hi hb (by decide) (by decide) (by decide)⟩
theorem split_results {tmps : Array Value} {W : World} {b : Nat} {v1 v2 v3 u : Value} (hp : tmps.getD 2 undef = .pointer (some ⟨b, 0, none⟩)) (h3 : tmps.getD 3 undef = u) (hb : Blk W b 37 #[v1, v2, v3]) :
    (results Tryd.f14 tmps).run Tryd.prog W = .ok (.tuple #[.agg #[v1, v2, v3], u]) W := by
  have hp' : tmps[2]?.getD undef = .pointer (some ⟨b, 0, none⟩) := by simpa using hp
  have h3' : tmps[3]?.getD undef = u := by simpa using h3
  simp [results, Tryd.results14, hp', h3', asAddr, run_loadVar_row W b _ 37 _ _ _ hb Tryd.underlying37 rfl arr_size]

/-- Within Split: its own blocks. -/
structure SpB (n0 g rb : Nat) (u v1 v2 v3 : Value) (W : World) : Prop where
  lt : n0 + 2 ≤ g
  gr : g < rb
  b0 : Blk W n0 37 #[.pointer none, .pointer none, .pointer none]
  bx : Blk W (n0 + 1) 37 #[v1, v2, v3]
  br : Blk W rb 36 #[u]
  bf : Blk W (rb + 1) 69 #[.func (.func 28) #[] #[.pointer (some ⟨rb, 0, none⟩)], .func (.func 30) #[] #[.pointer (some ⟨rb, 0, none⟩), .pointer (some ⟨n0 + 1, 0, none⟩)], .func (.func 32) #[] #[.pointer (some ⟨rb, 0, none⟩)]]
section
variable {n0 g rb : Nat} {u v1 v2 v3 : Value} {w W W' : World} {b : List UInt8}
theorem SpB.at_g (h : SpB n0 g rb u v1 v2 v3 W) (hg : W.grownBy W' (some g)) : SpB n0 g rb u v1 v2 v3 W' := by
  have h1 := h.lt
  have h2 := h.gr
  refine ⟨h1, h2, h.b0.grown hg ?_, h.bx.grown hg ?_, h.br.grown hg ?_, h.bf.grown hg ?_⟩ <;> (intro e; injection e with e; omega)
theorem SpB.new (h : SpB n0 g rb u v1 v2 v3 W) (hg : W.grownBy W' none) : SpB n0 g rb u v1 v2 v3 W' :=
  ⟨h.lt, h.gr, h.b0.kept hg, h.bx.kept hg, h.br.kept hg, h.bf.kept hg⟩
theorem SpB.keep (h : SpB n0 g rb u v1 v2 v3 W) (hk : Keep W g (n0 + 1) W') {u1 u2 u3 : Value} (hx : Blk W' (n0 + 1) 37 #[u1, u2, u3]) : SpB n0 g rb u u1 u2 u3 W' := by
  have h1 := h.lt
  have h2 := h.gr
  exact ⟨h1, h2, hk _ _ _ (by omega) (by omega) h.b0, hx, hk _ _ _ (by omega) (by omega) h.br, hk _ _ _ (by omega) (by omega) h.bf⟩

/-- The fault of a step of Split. -/
def SpF (w : World) (b : List UInt8) (n0 : Nat) (fb : Nat) (W : World) : Prop :=
  ∃ c y, SplitFault b c y ∧ St w W [] [⟨fb, c, y⟩] ∧ Blk W n0 37 #[.pointer none, .pointer none, .pointer none]
theorem St.only_fault {w0 : World} {rs : List RD} {fb : Nat} {c y : Int} (s : St w0 w rs []) (hg : w0.grownBy W none) (he : ErrType W) (hf : Flt W fb c y) : St w0 W [] [⟨fb, c, y⟩] :=
  ⟨he, s.err0, hg, by simp, by simp, fun f hm => by simp only [List.mem_singleton] at hm; subst hm; exact hf⟩

set_option maxRecDepth 100000 in
set_option maxHeartbeats 2000000 in
theorem s1_any (h : SpB n0 g rb (.pointer (some ⟨g, 0, none⟩)) v1 v2 v3 W) (s : St w W [⟨g, b, 0, 0⟩] []) :
    Calls Tryd.prog 28 #[.pointer (some ⟨rb, 0, none⟩)] W (Stp (fun W' => HeadOk b ∧ SpB n0 g rb (.pointer (some ⟨g, 0, none⟩)) v1 v2 v3 W' ∧ St w W' [⟨g, b, 5, 0⟩] []) (SpF w b n0)) := by
  have HT : Calls Tryd.prog 29 #[.pointer (some ⟨g, 0, none⟩)] W (Stp (fun W' => HeadOk b ∧ SpB n0 g rb (.pointer (some ⟨g, 0, none⟩)) v1 v2 v3 W' ∧ St w W' [⟨g, b, 5, 0⟩] []) (SpF w b n0)) := by
    rcases head_or b with ⟨i, hi⟩ | hh
    · refine (takeHead_fault s.head i hi).mono fun _ _ ⟨fb, h1, h2, h3, a, h4⟩ => .inr ⟨fb, h1, 6, i, .head i hi, ?_, (h.at_g h3).b0⟩
      have hm := s.move h3 h4
      exact hm.only_fault hm.step hm.err h2
    · exact (takeHead_ok s.head hh).mono fun _ _ ⟨h1, h2, h3⟩ => .inl ⟨h1, hh, h.at_g h2, s.move h2 h3⟩
  have c0 := h.br.cell 0
  clear h s
  go_enter Tryd.func28, Tryd.ntmps28
  go_wp2_with fail
  refine HT.mono ?_
  rintro e W' (⟨rfl, hr⟩ | ⟨fb, rfl, hf⟩)
  · go_wp2_with fail
    go_ret
    exact .inl ⟨rfl, hr⟩
  · go_wp2_with fail
    go_ret
    exact .inr ⟨fb, rfl, hf⟩

/-- What the second step leaves. -/
def SpR (w : World) (b : List UInt8) (n0 g rb : Nat) (W : World) : Prop :=
  ∃ (x : Parts) (a q1 q2 q3 : Nat), Three b x a ∧ SpB n0 g rb (.pointer (some ⟨g, 0, none⟩)) (.pointer (some ⟨q1, 0, none⟩)) (.pointer (some ⟨q2, 0, none⟩)) (.pointer (some ⟨q3, 0, none⟩)) W ∧
    St w W [⟨g, b, a, 0⟩, ⟨q3, cut b x.p3 x.n3, 0, x.p3⟩, ⟨q2, cut b x.p2 x.n2, 0, x.p2⟩, ⟨q1, cut b x.p1 x.n1, 0, x.p1⟩] []
set_option maxRecDepth 100000 in
set_option maxHeartbeats 2000000 in
theorem s2_any (h : SpB n0 g rb (.pointer (some ⟨g, 0, none⟩)) (.pointer none) (.pointer none) (.pointer none) W) (hh : HeadOk b) (s : St w W [⟨g, b, 5, 0⟩] []) (hn : w.heap.size ≤ n0 + 1) :
    Calls Tryd.prog 30 #[.pointer (some ⟨rb, 0, none⟩), .pointer (some ⟨n0 + 1, 0, none⟩)] W (Stp (SpR w b n0 g rb) (SpF w b n0)) := by
  have HT := takeSections_any s hh h.bx hn
  have c0 := h.br.cell 0
  have hl := h.lt
  go_enter Tryd.func30, Tryd.ntmps30
  go_wp2_with fail
  refine HT.mono ?_
  rintro e W' (⟨rfl, x, a, q1, q2, q3, h3, hs, hx, hk⟩ | ⟨fb, c, y, rfl, hf, hs, hk⟩)
  · have HR : Hid (SpR w b n0 g rb W') := ⟨x, a, q1, q2, q3, h3, h.keep hk hx, hs⟩
    clear h h3 hs hx hk
    go_wp2_with fail
    go_ret
    exact .inl ⟨rfl, HR.out⟩
  · have HR : Hid (SpF w b n0 fb W') := ⟨c, y, hf, hs, hk _ _ _ (by omega) (by omega) h.b0⟩
    clear h hs hk hf
    go_wp2_with fail
    go_ret
    exact .inr ⟨fb, rfl, HR.out⟩

/-- What the third step leaves. -/
def SpE (w : World) (b : List UInt8) (n0 g rb : Nat) (W : World) : Prop :=
  ∃ (x : Parts) (q1 q2 q3 : Nat), SplitOk b x ∧ SpB n0 g rb (.pointer (some ⟨g, 0, none⟩)) (.pointer (some ⟨q1, 0, none⟩)) (.pointer (some ⟨q2, 0, none⟩)) (.pointer (some ⟨q3, 0, none⟩)) W ∧
    St w W [⟨q1, cut b x.p1 x.n1, 0, x.p1⟩, ⟨q2, cut b x.p2 x.n2, 0, x.p2⟩, ⟨q3, cut b x.p3 x.n3, 0, x.p3⟩] []
set_option maxRecDepth 100000 in
set_option maxHeartbeats 2000000 in
theorem s3_any (h : SpR w b n0 g rb W) :
    Calls Tryd.prog 32 #[.pointer (some ⟨rb, 0, none⟩)] W (Stp (SpE w b n0 g rb) (SpF w b n0)) := by
  obtain ⟨x, a, q1, q2, q3, h3, hb, hs⟩ := h
  have HT : Calls Tryd.prog 33 #[.pointer (some ⟨g, 0, none⟩)] W (Stp (SpE w b n0 g rb) (SpF w b n0)) := by
    have hle := hs.head.le
    by_cases ha : a = b.length
    · refine (end_ok hs.head ha).mono fun _ _ ⟨h1, h2⟩ => .inl ⟨h1, x, q1, q2, q3, ⟨h3.head, h3.s1, h3.s2, h3.s3, by rw [← h3.at_, ha]⟩, hb.new h2, ?_⟩
      exact (hs.none_ h2).tail.perm (List.reverse_perm [(⟨q1, cut b x.p1 x.n1, 0, x.p1⟩ : RD), ⟨q2, cut b x.p2 x.n2, 0, x.p2⟩, ⟨q3, cut b x.p3 x.n3, 0, x.p3⟩])
    · have hle' : a ≤ b.length := hle
      refine (end_long hs.head (show a < b.length by omega)).mono fun _ _ ⟨fb, h1, h2, _, h4⟩ => .inr ⟨fb, h1, 4, (a : Int), ?_, ?_, (hb.new h4).b0⟩
      · have := SplitFault.more x h3.head h3.s1 h3.s2 h3.s3 (by rw [← h3.at_]; omega)
        rw [← h3.at_] at this
        exact this
      · have hm := hs.none_ h4
        exact hm.only_fault hm.step hm.err (by simpa using h2)
  have c0 := hb.br.cell 0
  clear hb hs h3
  go_enter Tryd.func32, Tryd.ntmps32
  go_wp2_with fail
  refine HT.mono ?_
  rintro e W' (⟨rfl, hr⟩ | ⟨fb, rfl, hf⟩)
  · go_wp2_with fail
    go_ret
    exact .inl ⟨rfl, hr⟩
  · go_wp2_with fail
    go_ret
    exact .inr ⟨fb, rfl, hf⟩
end

/-- What Split answers, and what it leaves. -/
def Splits (b : List UInt8) (w : World) (e : Ending) (w' : World) : Prop :=
  (∃ (x : Parts) (q1 q2 q3 : Nat), SplitOk b x ∧ e = .returned (.tuple #[.agg #[.pointer (some ⟨q1, 0, none⟩), .pointer (some ⟨q2, 0, none⟩), .pointer (some ⟨q3, 0, none⟩)], .nilIface]) ∧
    St w w' [⟨q1, cut b x.p1 x.n1, 0, x.p1⟩, ⟨q2, cut b x.p2 x.n2, 0, x.p2⟩, ⟨q3, cut b x.p3 x.n3, 0, x.p3⟩] []) ∨
  (∃ fb c y, SplitFault b c y ∧ e = .returned (.tuple #[.agg #[.pointer none, .pointer none, .pointer none], .iface 74 (.pointer (some ⟨fb, 0, none⟩))]) ∧ St w w' [] [⟨fb, c, y⟩])

set_option maxRecDepth 100000 in
set_option maxHeartbeats 2000000 in
theorem split_any (t : ByteArray) (ht : t.size ≤ 4611686018427387904) (w : World) (hE : ErrType w) :
    Calls Tryd.prog 14 #[.string t] w (Splits t.data.toList w) := by
  have hmf : ∀ (fn : Fn) (first cap : Array Value) (w : World), (Instr.makeFunc fn first cap).run Tryd.prog w = .ok (.func fn first cap) w := fun _ _ _ _ => rfl
  have HN := fun W => newReader_any t W ht
  clear ht
  generalize t.data.toList = b at *
  go_enter Tryd.func14, Tryd.ntmps14
  go_wp2_with fail
  refine (HN _).mono ?_
  clear HN
  rintro e W1 ⟨g, rfl, h1, h2, h3⟩
  have hz : ((w.alloc (.cells #[.pointer none, .pointer none, .pointer none] 37)).alloc (.cells #[.pointer none, .pointer none, .pointer none] 37)).heap.size = w.heap.size + 2 := by simp
  have g0 : w.grownBy ((w.alloc (.cells #[.pointer none, .pointer none, .pointer none] 37)).alloc (.cells #[.pointer none, .pointer none, .pointer none] 37)) none := only_alloc (only_alloc (only_refl _ _) _) _
  have S0 := ((St.start hE).none_ g0).new h1 h2 h3
  have B0 := ((Blk.new w 37 #[.pointer none, .pointer none, .pointer none]).alloc (.cells #[.pointer none, .pointer none, .pointer none] 37)).kept h2
  have BX := (Blk.new' (n := w.heap.size + 1) (w := w.alloc (.cells #[.pointer none, .pointer none, .pointer none] 37)) (by simp) 37 #[.pointer none, .pointer none, .pointer none]).kept h2
  rw [hz] at h1
  have hgl := h3.lt
  clear h2 h3 g0 hz hE
  have HB : SpB w.heap.size g W1.heap.size (.pointer (some ⟨g, 0, none⟩)) (.pointer none) (.pointer none) (.pointer none) ((W1.alloc (.cells #[.pointer (some ⟨g, 0, none⟩)] 36)).alloc (.cells #[.func (.func 28) #[] #[.pointer (some ⟨W1.heap.size, 0, none⟩)], .func (.func 30) #[] #[.pointer (some ⟨W1.heap.size, 0, none⟩), .pointer (some ⟨w.heap.size + 1, 0, none⟩)], .func (.func 32) #[] #[.pointer (some ⟨W1.heap.size, 0, none⟩)]] 69)) :=
    ⟨h1, hgl, (B0.alloc _).alloc _, (BX.alloc _).alloc _, (Blk.new W1 _ _).alloc _, Blk.new' (by simp) _ _⟩
  have HS := S0.none_ (only_alloc (only_alloc (only_refl W1 none) (.cells #[.pointer (some ⟨g, 0, none⟩)] 36)) (.cells #[.func (.func 28) #[] #[.pointer (some ⟨W1.heap.size, 0, none⟩)], .func (.func 30) #[] #[.pointer (some ⟨W1.heap.size, 0, none⟩), .pointer (some ⟨w.heap.size + 1, 0, none⟩)], .func (.func 32) #[] #[.pointer (some ⟨W1.heap.size, 0, none⟩)]] 69))
  clear B0 BX S0
  go_wp2_with fail
  refine (first_split HB.bf (s1_any HB HS) (fun V1 ⟨hh, b1, k1⟩ => ⟨b1.bf, s2_any b1 hh k1 (by omega)⟩) (fun V2 k2 => ⟨by obtain ⟨_, _, _, _, _, _, b2, _⟩ := k2; exact b2.bf, s3_any k2⟩)).mono ?_
  clear HB HS
  rintro e V (⟨rfl, x, q1, q2, q3, hx, hb, hs⟩ | ⟨fb, rfl, c, y, hf, hs, hb⟩)
  · have b0 := hb.b0
    have bx := hb.bx
    have H1 := Lib.hid (set3 hs (Nat.le_refl _) b0 (.pointer (some ⟨q1, 0, none⟩)) (.pointer (some ⟨q2, 0, none⟩)) (.pointer (some ⟨q3, 0, none⟩)))
    have hx1 := Lib.hid hx
    have k0 := b0.cell 0
    have k1 := b0.cell 1
    have k2 := b0.cell 2
    have f0 := b0.frozen 0
    have f1 := b0.frozen 1
    have f2 := b0.frozen 2
    have x0 := bx.cell 0
    have x1 := bx.cell 1
    have x2 := bx.cell 2
    clear hb hs hx b0 bx
    go_wp2_with fail
    exact bodyPost_ret (split_results rfl rfl H1.out.1) rfl (.inl ⟨x, q1, q2, q3, hx1.out, rfl, H1.out.2⟩)
  · have H1 := Lib.hid (set3 hs (Nat.le_refl _) hb (.pointer none) (.pointer none) (.pointer none))
    have hf1 := Lib.hid hf
    have k0 := hb.cell 0
    have k1 := hb.cell 1
    have k2 := hb.cell 2
    have f0 := hb.frozen 0
    have f1 := hb.frozen 1
    have f2 := hb.frozen 2
    clear hs hf hb
    go_wp2_with fail
    exact bodyPost_ret (split_results rfl rfl H1.out.1) rfl (.inr ⟨fb, c, y, hf1.out, rfl, H1.out.2⟩)
end Go.Proofs.YtjjfofifooailaaDoor

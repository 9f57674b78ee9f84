/- The statements' own made: a table of so many nodes, each as it may be. -/
import Derived.Test.YthjkgjkiikomdaaGMadA
import Derived.Test.YthjkgjkiikomdaaGWrk
import Derived.Deep.CutBlock
import Derived.Deep.CutRange
import Derived.Deep.RegionHeld3
import Derived.Deep.RegionWith
namespace Go.Proofs.Ythjkgjkiikomdaa
open Go.RowKit Go.Shelf

/-- Four bytes. -/
structure Qd where
  x0 : Int
  x1 : Int
  x2 : Int
  x3 : Int
abbrev qCells (q : Qd) : Array Value := #[.int .u8 q.x0, .int .u8 q.x1, .int .u8 q.x2, .int .u8 q.x3]
def Qd.ok (q : Qd) : Prop := (0 ≤ q.x0 ∧ q.x0 < 256) ∧ (0 ≤ q.x1 ∧ q.x1 < 256) ∧ (0 ≤ q.x2 ∧ q.x2 < 256) ∧ (0 ≤ q.x3 ∧ q.x3 < 256)
/-- A slice value that reads as a list of them. -/
def Quads (w : World) (v : Value) (qs : List Qd) : Prop := ∃ (A : Option Addr) (c : Nat), v = .slice A qs.length c ∧ (∀ q ∈ qs, q.ok) ∧
  (qs ≠ [] → ∃ b off, A = some ⟨b, off, none⟩ ∧ ∀ i q, qs[i]? = some q → w.cell? ⟨b, off + i * 4, none⟩ = some (.int .u8 q.x0) ∧ w.cell? ⟨b, off + i * 4 + 1, none⟩ = some (.int .u8 q.x1) ∧ w.cell? ⟨b, off + i * 4 + 2, none⟩ = some (.int .u8 q.x2) ∧ w.cell? ⟨b, off + i * 4 + 3, none⟩ = some (.int .u8 q.x3))
theorem Quads.keep {w w' : World} {v : Value} {qs : List Qd} (h : Quads w v qs) (hk : Keeps w w') : Quads w' v qs := by
  obtain ⟨A, c, h1, hl, h2⟩ := h
  refine ⟨A, c, h1, hl, fun hn => ?_⟩
  obtain ⟨b, off, h3, h4⟩ := h2 hn
  exact ⟨b, off, h3, fun i e he => ⟨hk _ _ (h4 i e he).1, hk _ _ (h4 i e he).2.1, hk _ _ (h4 i e he).2.2.1, hk _ _ (h4 i e he).2.2.2⟩⟩

/-- What is made so far. -/
def MO (w : World) (n k : Nat) (v : Value) (W : World) : Prop := ∃ ns, ns.length = k ∧ OM w.heap.size W v ns ∧ w.grownBy W none ∧ ∀ p ∈ ns, Good n p.1
/-- The node to be appended, in its box. -/
def MB (wr : World) (n : Nat) (W : World) : Prop := ∃ nd e, EOwn wr.heap.size W e nd.next ∧ Blk W (wr.heap.size + 2) 35 (ndCells nd e) ∧ wr.grownBy W none ∧ Good n nd

theorem mo_next {w wr wc W' : World} {n k : Nat} {v v' : Value} {ns : List (Nd × Value)} {p : Nd × Value} {o : Obj} (hns : ns.length = k) (hot : OM w.heap.size wr v ns) (hg : w.grownBy wr none) (hgd : ∀ p ∈ ns, Good n p.1) (hc : wr.grownBy wc none) (hp : Good n p.1)
    (hot' : OM w.heap.size W' v' (ns ++ [p])) (hgr : (wc.alloc o).grownBy W' v.ownBlock) : MO w n (k + 1) v' W' := by
  refine ⟨ns ++ [p], by simp [hns], hot', grown_own (only_alloc (only_trans hg hc) o) (fun g e => (own_row hot.row g e).1) hgr, fun q hq => ?_⟩
  rcases List.mem_append.1 hq with hq | hq
  · exact hgd q hq
  · obtain rfl := List.mem_singleton.1 hq; exact hp
/-- Within the loop that makes a Select's, a Branch's edges. -/
structure IB (wr : World) (n : Nat) (K : Int) (q : Qd) (e0 : Ed) (v : Value) (fs : List Ed) (W : World) : Prop where
  step : wr.grownBy W none
  own : EOwn (wr.heap.size + 3) W v fs
  quad : Blk W wr.heap.size 53 (qCells q)
  edge : Blk W (wr.heap.size + 1) 32 (edCells e0)
  node : Blk W (wr.heap.size + 2) 35 (ndCells ⟨K, 0, false, (0, 0), fs⟩ v)
  ok : ∀ e ∈ fs, edOk n e
section
variable {wr W W' : World} {n : Nat} {K : Int} {q : Qd} {e0 : Ed} {v v' : Value} {fs : List Ed}
theorem IB.far (h : IB wr n K q e0 v fs W) : ∀ g, v.ownBlock = some g → wr.heap.size + 3 ≤ g := fun g hg => (h.own.lt g hg).1
theorem IB.start (wr : World) (n : Nat) (K : Int) (q : Qd) (e0 : Ed) : IB wr n K q e0 (.slice none 0 0) [] (((wr.alloc (.cells (qCells q) 53)).alloc (.cells (edCells e0) 32)).alloc (.cells (ndCells ⟨K, 0, false, (0, 0), []⟩ (.slice none 0 0)) 35)).drew :=
  ⟨only_drew (only_alloc (only_alloc (only_alloc (only_refl _ _) _) _) _), EOwn.nil_ _ _, Blk.drew (((Blk.new wr _ _).alloc _).alloc _), Blk.drew ((blk_at (by simp) _ _).alloc _), Blk.drew (blk_at (by simp) _ _), by simp⟩
theorem IB.grown (h : IB wr n K q e0 v fs W) (hg : W.grownBy W' v.ownBlock) : wr.grownBy W' none ∧ Blk W' wr.heap.size 53 (qCells q) ∧ Blk W' (wr.heap.size + 1) 32 (edCells e0) ∧ Blk W' (wr.heap.size + 2) 35 (ndCells ⟨K, 0, false, (0, 0), fs⟩ v) := by
  have hf : ∀ i, i < wr.heap.size + 3 → some i ≠ v.ownBlock := fun i hi e => by have := h.far i e.symm; omega
  exact ⟨grown_own h.step (fun g e => by have := h.far g e; omega) hg, h.quad.grown hg (hf _ (by omega)), h.edge.grown hg (hf _ (by omega)), h.node.grown hg (hf _ (by omega))⟩
theorem IB.next {e : Ed} (h : IB wr n K q e0 v fs W) (hg : W.grownBy W' v.ownBlock) (ho : EOwn (wr.heap.size + 3) W' v' (fs ++ [e])) (he : edOk n e) : IB wr n K q e0 v' (fs ++ [e]) (W'.setCell ⟨wr.heap.size + 1 + 1, 5, none⟩ v') := by
  obtain ⟨g1, g2, g3, g4⟩ := h.grown hg
  refine ⟨only_setNew g1 (by show wr.heap.size ≤ wr.heap.size + 1 + 1; omega) _, ?_, g2.far (by show wr.heap.size ≠ wr.heap.size + 1 + 1; omega) _, g3.far (by show wr.heap.size + 1 ≠ wr.heap.size + 1 + 1; omega) _, g4.set_ 5 v', ?_⟩
  · refine ho.kept (only_setCell (only_refl _ (some (wr.heap.size + 2))) rfl _) (fun g e' e2 => ?_)
    have := (World.ownsRow.lt ho g e').1
    simp only [Option.some.injEq] at e2
    omega
  · intro e' he'
    rcases List.mem_append.1 he' with he' | he'
    · exact h.ok e' he'
    · obtain rfl := List.mem_singleton.1 he'; exact he
end

set_option maxRecDepth 100000 in
set_option maxHeartbeats 4000000 in
theorem made_any (qs : List Qd) (A : Option Addr) (c n : Nat) (hn : 1 ≤ n) (hn2 : n ≤ 40) (w : World) (hQ : Quads w (.slice A qs.length c) qs) (hq : 0 < qs.length) :
    Calls Try.prog 13 #[.slice A qs.length c, .int .i64 n] w fun e w' => ∃ v ns, e = .returned v ∧ w.grownBy w' none ∧ OM w.heap.size w' v ns ∧ ns.length = n ∧ ∀ p ∈ ns, Good n p.1 := by
  have HQ := Lib.hid hQ
  have HN : Hid (1 ≤ n ∧ n ≤ 40) := ⟨hn, hn2⟩
  clear hQ
  have H0 : Hid (MO w n 0 (.slice none 0 0) w) := ⟨[], rfl, OM.start _ _, only_refl _ _, by simp⟩
  go_enter Try.func13, Try.ntmps13
  go_wp2_with fail
  go_loopw [5, 6] (fun v i wr => ∃ k : Nat, k ≤ n ∧ i = .int .i64 (k : Int) ∧ MO w n k v wr) (fun _ i _ => n - (intOf i).toNat)
  case atStart => exact ⟨0, Nat.zero_le _, rfl, H0.out⟩
  case round =>
    clear H0
    obtain ⟨k, hk, rfl, ns, hns, hot, hg, hgood⟩ := hrel
    have HO := Lib.hid hot
    have HG := Lib.hid hg
    have HGD := Lib.hid hgood
    have HNS := Lib.hid hns
    clear hot hg hgood hns
    by_cases hlt : k < n
    · have hlt' : (k : Int) < (n : Int) := by omega
      obtain ⟨m, hm⟩ : ∃ m : Nat, m = k % qs.length := ⟨_, rfl⟩
      have hml : m < qs.length := by rw [hm]; exact Nat.mod_lt _ hq
      have hmi : (k : Int).tmod (qs.length : Int) = (m : Int) := by rw [hm]; rfl
      have hml' : (m : Int) < (qs.length : Int) := by omega
      have hq0 : ((qs.length : Int) == 0) = false := beq_eq_false_iff_ne.2 (by omega)
      have hn0 : ((n : Int) == 0) = false := beq_eq_false_iff_ne.2 (by omega)
      clear hm
      obtain ⟨x, hx⟩ : ∃ x, qs[m]? = some x := ⟨_, List.getElem?_eq_getElem hml⟩
      obtain ⟨A', c', hA, hok, hcl⟩ := HQ.out
      obtain ⟨bb, off, hAb, hcl2⟩ := hcl (by intro e0; rw [e0] at hq; simp at hq)
      obtain ⟨m0, m1, m2, m3⟩ := hcl2 m x hx
      obtain ⟨⟨b00, b01⟩, ⟨b10, b11⟩, ⟨b20, b21⟩, ⟨b30, b31⟩⟩ := hok x (List.mem_of_getElem? hx)
      obtain ⟨rfl, rfl⟩ : A = A' ∧ c = c' := by simpa using hA
      subst hAb
      clear hA hcl hcl2 hok hx
      obtain ⟨x0, x1, x2, x3⟩ := x
      dsimp only at m0 m1 m2 m3 b00 b01 b10 b11 b20 b21 b30 b31
      have n0 := Keeps.grown HG.out _ _ m0
      have n1 := Keeps.grown HG.out _ _ m1
      have n2 := Keeps.grown HG.out _ _ m2
      have n3 := Keeps.grown HG.out _ _ m3
      clear m0 m1 m2 m3
      go_wp2_with fail
      have hnz : ¬ n = 0 := by omega
      have HB0 : Hid (Blk (wr.alloc (.cells #[.int .u8 x0, .int .u8 x1, .int .u8 x2, .int .u8 x3] 53)) wr.heap.size 53 (qCells ⟨x0, x1, x2, x3⟩)) := Blk.new wr _ (qCells ⟨x0, x1, x2, x3⟩)
      go_region_held3 (fun w' => w'.cell? ⟨wr.heap.size, 1, none⟩ = some (.int .u8 x1) ∧ w'.cell? ⟨wr.heap.size, 2, none⟩ = some (.int .u8 x2)) (first | exact ⟨HB0.out.drew.cell 1, HB0.out.drew.cell 2⟩ | exact ⟨(HB0.out.alloc _).drew.cell 1, (HB0.out.alloc _).drew.cell 2⟩) (fail)
      go_upto_block 2 with fail
      have HE : Hid (edOk n ((x1 + (k : Int)) % (n : Int), x2 % 7)) := ⟨Int.emod_nonneg _ (by omega), Int.emod_lt_of_pos _ (by omega), by show 0 ≤ x2 % 7; omega, by show x2 % 7 ≤ 1000; omega⟩
      have H6 : Hid (x2 % 7 ≤ 6) := show _ ≤ _ by omega
      generalize (x1 + (k : Int)) % (n : Int) = ea at *
      generalize x2 % 7 = es at *
      have hK : x0 % 6 = 0 ∨ x0 % 6 = 1 ∨ x0 % 6 = 2 ∨ x0 % 6 = 3 ∨ x0 % 6 = 4 ∨ x0 % 6 = 5 := by omega
      generalize x0 % 6 = K at *
      go_cut [10] from 40 to 98 (fun _ wx => MB wr n wx)
      case first =>
        rcases hK with rfl | rfl | rfl | rfl | rfl | rfl
        · go_wp2_with fail
          go_meet
          exact ⟨⟨0, 0, false, (0, 0), []⟩, .slice none 0 0, EOwn.nil_ _ _, Blk.drew (blk_at (by simp) _ _), only_drew (only_alloc (only_alloc (only_alloc (only_refl _ _) _) _) _), good_end n⟩
        case inr.inl =>
          by_cases h2 : x3 % 2 = 0
          · have h2' : (x3 % 2 == 0) = true := beq_iff_eq.2 h2
            clear h2
            have HEQ : Hid (edOk n ((IntKind.i64.wrap x3).tmod (n : Int), IntKind.i64.wrap x2)) := by
              have e3 : IntKind.i64.wrap x3 = x3 := IntWalk.i64_in x3 ⟨by omega, by omega⟩
              have e2 : IntKind.i64.wrap x2 = x2 := IntWalk.i64_in x2 ⟨by omega, by omega⟩
              rw [e3, e2, Int.tmod_eq_emod_of_nonneg b30]
              exact ⟨Int.emod_nonneg _ (by omega), Int.emod_lt_of_pos _ (by omega), by show 0 ≤ x2; omega, by show x2 ≤ 1000; omega⟩
            have h3 : 0 ≤ x3 ∧ x3 ≤ 255 := ⟨by omega, by omega⟩
            have H3 := Lib.hid h3
            clear h3
            go_upto_region 15 with fail
            go_region_with (fail)
            all_goals go_wp2
            all_goals go_meet
            all_goals exact ⟨⟨1, x3, true, ((IntKind.i64.wrap x3).tmod (n : Int), IntKind.i64.wrap x2), [(ea, es)]⟩, .slice (some ⟨wr.heap.size + 3, 0, none⟩) 1 1, EOwn.one (Blk.drew (blk_at (by simp) _ _)) (by simp), Blk.drew ((blk_at (by simp) _ _).alloc _), only_drew (only_drew (only_alloc (only_alloc (only_alloc (only_alloc (only_refl _ _) _) _) _) _)), good_chan (.inl rfl) H3.out.1 H3.out.2 HE.out HEQ.out⟩
          · have h2' : (x3 % 2 == 0) = false := beq_eq_false_iff_ne.2 h2
            clear h2
            have h3 : 0 ≤ x3 ∧ x3 ≤ 255 := ⟨by omega, by omega⟩
            have H3 := Lib.hid h3
            clear h3
            go_wp2_with fail
            go_meet
            exact ⟨⟨1, x3, false, (0, 0), [(ea, es)]⟩, .slice (some ⟨wr.heap.size + 3, 0, none⟩) 1 1, EOwn.one (Blk.drew (blk_at (by simp) _ _)) (by simp), Blk.drew ((blk_at (by simp) _ _).alloc _), only_drew (only_alloc (only_alloc (only_alloc (only_alloc (only_refl _ _) _) _) _) _), good_word (.inl rfl) H3.out.1 H3.out.2 HE.out⟩
        case inr.inr.inl =>
          by_cases h2 : x3 % 2 = 0
          · have h2' : (x3 % 2 == 0) = true := beq_iff_eq.2 h2
            clear h2
            have HEQ : Hid (edOk n ((IntKind.i64.wrap x3).tmod (n : Int), IntKind.i64.wrap x2)) := by
              have e3 : IntKind.i64.wrap x3 = x3 := IntWalk.i64_in x3 ⟨by omega, by omega⟩
              have e2 : IntKind.i64.wrap x2 = x2 := IntWalk.i64_in x2 ⟨by omega, by omega⟩
              rw [e3, e2, Int.tmod_eq_emod_of_nonneg b30]
              exact ⟨Int.emod_nonneg _ (by omega), Int.emod_lt_of_pos _ (by omega), by show 0 ≤ x2; omega, by show x2 ≤ 1000; omega⟩
            have h3 : 0 ≤ x3 ∧ x3 ≤ 255 := ⟨by omega, by omega⟩
            have H3 := Lib.hid h3
            clear h3
            go_upto_region 15 with fail
            go_region_with (fail)
            all_goals go_wp2
            all_goals go_meet
            all_goals exact ⟨⟨2, x3, true, ((IntKind.i64.wrap x3).tmod (n : Int), IntKind.i64.wrap x2), [(ea, es)]⟩, .slice (some ⟨wr.heap.size + 3, 0, none⟩) 1 1, EOwn.one (Blk.drew (blk_at (by simp) _ _)) (by simp), Blk.drew ((blk_at (by simp) _ _).alloc _), only_drew (only_drew (only_alloc (only_alloc (only_alloc (only_alloc (only_refl _ _) _) _) _) _)), good_chan (.inr rfl) H3.out.1 H3.out.2 HE.out HEQ.out⟩
          · have h2' : (x3 % 2 == 0) = false := beq_eq_false_iff_ne.2 h2
            clear h2
            have h3 : 0 ≤ x3 ∧ x3 ≤ 255 := ⟨by omega, by omega⟩
            have H3 := Lib.hid h3
            clear h3
            go_wp2_with fail
            go_meet
            exact ⟨⟨2, x3, false, (0, 0), [(ea, es)]⟩, .slice (some ⟨wr.heap.size + 3, 0, none⟩) 1 1, EOwn.one (Blk.drew (blk_at (by simp) _ _)) (by simp), Blk.drew ((blk_at (by simp) _ _).alloc _), only_drew (only_alloc (only_alloc (only_alloc (only_alloc (only_refl _ _) _) _) _) _), good_word (.inr rfl) H3.out.1 H3.out.2 HE.out⟩
        case inr.inr.inr.inr.inr =>
          go_wp2_with fail
          go_meet
          exact ⟨⟨5, 0, false, (0, 0), [(ea, es)]⟩, .slice (some ⟨wr.heap.size + 3, 0, none⟩) 1 1, EOwn.one (Blk.drew (blk_at (by simp) _ _)) (by simp), Blk.drew ((blk_at (by simp) _ _).alloc _), only_drew (only_alloc (only_alloc (only_alloc (only_alloc (only_refl _ _) _) _) _) _), good_alias HE.out⟩
        all_goals
          (obtain ⟨w1, rfl⟩ : ∃ w1 : World, w1 = wr := ⟨_, rfl⟩
           have hx8 : 0 ≤ x3 % 8 ∧ x3 % 8 ≤ 7 := ⟨by omega, by omega⟩
           obtain ⟨M, hM⟩ : ∃ M : Nat, x3 % 8 = (M : Int) := ⟨(x3 % 8).toNat, by omega⟩
           have hM7 : M ≤ 7 := by omega
           clear hx8
           go_wp2_with fail
           go_loopw [10] (fun i W => ∃ v fs, fs.length ≤ M + 1 ∧ i = .int .i64 (fs.length : Int) ∧ IB w1 n _ ⟨x0, x1, x2, x3⟩ (ea, es) v fs W) (fun i _ => M + 1 - (intOf i).toNat)
           case atStart => exact ⟨_, [], by simp, rfl, IB.start _ _ _ _ _⟩
           case round =>
             clear HG HO HGD HNS HB0 HQ n0 n1 n2 n3
             obtain ⟨v, fs, hfs, rfl, hib⟩ := hrel
             have hib2 := hib.own.len
             have q3 : wr.cell? ⟨w1.heap.size, 3, none⟩ = some (.int .u8 x3) := hib.quad.cell 3
             have e0 : wr.cell? ⟨w1.heap.size + 1, 0, none⟩ = some (.int .i64 ea) := hib.edge.cell 0
             have e1 : wr.cell? ⟨w1.heap.size + 1, 1, none⟩ = some (.int .i64 es) := hib.edge.cell 1
             have p5 : wr.cell? ⟨w1.heap.size + 1 + 1, 5, none⟩ = some v := hib.node.cell 5
             have f5 : wr.frozen? ⟨w1.heap.size + 1 + 1, 5, none⟩ = false := hib.node.frozen 5
             have HB1 : Hid (w1.heap.size + 3 ≤ wr.heap.size) := show _ ≤ _ by have := hib.node.lt; omega
             have HIB := Lib.hid hib
             clear hib
             obtain ⟨A2, c2, rfl⟩ := hib2
             by_cases hle : fs.length ≤ M
             · have hle' : (fs.length : Int) ≤ (M : Int) := by omega
               have hf7 : (fs.length : Int) ≤ 7 := by omega
               have hf0 : 0 ≤ (fs.length : Int) := by omega
               have HF7 : Hid (fs.length ≤ 7) := show _ ≤ _ by omega
               have ha0 : 0 ≤ ea := HE.out.1
               have ha1 : ea < (n : Int) := HE.out.2.1
               have hs0 : 0 ≤ es := HE.out.2.2.1
               have hs1 : es ≤ 6 := H6.out
               have hn40 : (n : Int) ≤ 40 := by omega
               have hw1 : IntKind.i64.wrap (ea + (fs.length : Int)) = ea + (fs.length : Int) := IntWalk.i64_in _ ⟨by omega, by omega⟩
               have hw2 : IntKind.i64.wrap (es + (fs.length : Int)) = es + (fs.length : Int) := IntWalk.i64_in _ ⟨by omega, by omega⟩
               have HEn : Hid (edOk n ((ea + (fs.length : Int)).tmod (n : Int), es + (fs.length : Int))) := by
                 rw [Int.tmod_eq_emod_of_nonneg (by omega)]
                 exact ⟨Int.emod_nonneg _ (by omega), Int.emod_lt_of_pos _ (by omega), by show 0 ≤ es + _; omega, by show es + _ ≤ 1000; omega⟩
               clear hle
               go_wp2_with fail
               have HOT : Hid (EOwn (w1.heap.size + 3) (wr.alloc (.cells #[.int .i64 ((ea + (fs.length : Int)).tmod (n : Int)), .int .i64 (es + (fs.length : Int))] 32)).drew (.slice A2 fs.length c2) fs) := HIB.out.own.kept0 (only_drew (only_alloc (only_refl _ _) _))
               have HBL : Hid (Blk (wr.alloc (.cells #[.int .i64 ((ea + (fs.length : Int)).tmod (n : Int)), .int .i64 (es + (fs.length : Int))] 32)).drew wr.heap.size 32 (edCells ((ea + (fs.length : Int)).tmod (n : Int), es + (fs.length : Int)))) := Blk.drew (Blk.new _ _ _)
               have HSZ : Hid (fs.length ≤ 1000) := show _ ≤ _ by have := HF7.out; omega
               have HBS : Hid (w1.heap.size + 3 ≤ (wr.alloc (.cells #[.int .i64 ((ea + (fs.length : Int)).tmod (n : Int)), .int .i64 (es + (fs.length : Int))] 32)).drew.heap.size) := show _ ≤ _ by have := HB1.out; simp [World.drew]; omega
               have HGR : Hid (∀ W', (wr.alloc (.cells #[.int .i64 ((ea + (fs.length : Int)).tmod (n : Int)), .int .i64 (es + (fs.length : Int))] 32)).drew.grownBy W' (Value.ownBlock (.slice A2 fs.length c2)) → wr.grownBy W' (Value.ownBlock (.slice A2 fs.length c2))) := fun W' h => only_trans (only_drew (only_alloc (only_refl _ _) _)) h
               have p5a : (wr.alloc (.cells #[.int .i64 ((ea + (fs.length : Int)).tmod (n : Int)), .int .i64 (es + (fs.length : Int))] 32)).cell? ⟨w1.heap.size + 1 + 1, 5, none⟩ = some (.slice A2 fs.length c2) := (HIB.out.node.alloc _).cell 5
               have p5b : (wr.alloc (.cells #[.int .i64 ((ea + (fs.length : Int)).tmod (n : Int)), .int .i64 (es + (fs.length : Int))] 32)).drew.cell? ⟨w1.heap.size + 1 + 1, 5, none⟩ = some (.slice A2 fs.length c2) := (HIB.out.node.alloc _).drew.cell 5
               go_region_law (refine step_append_edge rfl (.tmp 79) (.tmp 91) rfl rfl rfl HOT.out HBL.out HSZ.out HBS.out ?_; intro v' W' h1 h2; obtain ⟨A3, c3, rfl⟩ := h1.len; have HX := Lib.hid (HGR.out _ h2); have HO := Lib.hid h1; have p5' : W'.cell? ⟨w1.heap.size + 1 + 1, 5, none⟩ = some (.slice A2 fs.length c2) := (HIB.out.grown HX.out).2.2.2.cell 5; have f5' : W'.frozen? ⟨w1.heap.size + 1 + 1, 5, none⟩ = false := (HIB.out.grown HX.out).2.2.2.frozen 5; clear h1 h2)
               all_goals
                 (go_wp2
                  go_roundw
                  case rel => exact ⟨_, fs ++ [((ea + (fs.length : Int)).tmod (n : Int), es + (fs.length : Int))], by simp; omega, by simp, HIB.out.next HX.out (by have h := HO.out; rw [List.length_append] at h; exact h) HEn.out⟩
                  case measure => simp [intOf]; omega)
             · have hgt : decide ((fs.length : Int) ≤ (M : Int)) = false := decide_eq_false (by omega)
               have hgt' : (M : Int) < (fs.length : Int) := by omega
               have HL1 : Hid (1 ≤ fs.length ∧ fs.length ≤ 8) := ⟨by omega, by omega⟩
               clear hle
               go_wp2_with fail
               go_meet
               exact ⟨⟨_, 0, false, (0, 0), fs⟩, _, HIB.out.own.base_ (by omega), HIB.out.node, HIB.out.step, good_fan (by first | exact .inl rfl | exact .inr rfl) HL1.out.1 HL1.out.2 HIB.out.ok⟩)
      case rest =>
        obtain ⟨nd, e, hEe, hblk, hgw, hgd⟩ := hcut
        have hEl := hEe.len
        obtain ⟨A3, c3, rfl⟩ := hEl
        obtain ⟨p0, p1, p2, p3, p4, p5⟩ := nd_cells (show Blk wc (wr.heap.size + 1 + 1) 35 _ from hblk)
        have HGW := Lib.hid hgw
        have HGD2 := Lib.hid hgd
        have HN1 : Hid (ns.length ≤ 1000) := show _ ≤ _ by have := HNS.out; omega
        have HN8 : Hid (nd.next.length ≤ 1000) := show _ ≤ _ by have := hgd.2; omega
        have HB1 : Hid (w.heap.size ≤ (wc.alloc (.cells (ndCells nd (.slice A3 nd.next.length c3)) 35)).heap.size) := show _ ≤ _ by have := HG.out.size; have := hgw.size; simp; omega
        have HAP : Hid (∀ p ∈ ns, ∀ g, p.2.ownBlock = some g → Value.ownBlock (.slice A3 nd.next.length c3) ≠ some g) := fun p hp g h1 h2 => by
          have a1 := (World.ownsRow.lt (HO.out.eds p hp).1 g h1).2
          have a2 := (World.ownsRow.lt hEe g h2).1
          omega
        have HEe := Lib.hid (hEe.base_ HG.out.size)
        clear hEe hblk hgw hgd n0 n1 n2 n3
        go_wp2_with (at_builtin; refine wpList_append_nodeM rfl (.tmp 99) (.tmp 101) rfl rfl rfl ((HO.out.kept HGW.out).kept (only_alloc (only_refl _ _) _)) (Blk.new _ _ _) (HEe.out.kept0 (only_alloc (only_refl _ _) _)) HN8.out HAP.out HN1.out HB1.out ?_; intro v2 W2 hot2 hgr2; have HOT2 := Lib.hid hot2; have HGR2 := Lib.hid hgr2; clear hot2 hgr2)
        go_roundw
        case rel => exact ⟨k + 1, by omega, by go_num, mo_next HNS.out HO.out HG.out HGD.out HGW.out HGD2.out HOT2.out HGR2.out⟩
        case measure => simp [intOf]; omega
    · have hke : k = n := by omega
      have hge : decide (k < n) = false := decide_eq_false hlt
      have hge' : (n : Int) ≤ (k : Int) := by omega
      have HK : Hid (ns.length = n) := show _ = _ by have := HNS.out; omega
      clear hlt hk HNS hke
      go_wp2_with fail
      go_ret
      exact ⟨_, ns, rfl, HG.out, HO.out, HK.out, HGD.out⟩
end Go.Proofs.Ythjkgjkiikomdaa

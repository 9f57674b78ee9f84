/- Texts joined for the claim's sake: MBkL, MOpn. -/
import Derived.Test.YtohhojbeclbedaaGreatDoorZMKnwRow21
import Derived.Test.YtohhojbeclbedaaGreatDoorZMKnwRow5
import Derived.Test.YtohhojbeclbedaaGreatDoorZMKnwRow29
namespace Go.Proofs.YtohhojbeclbedaaGreatDoor

theorem sevl_0 : sev 0 = [0] := by rw [sev_lt (by omega)]; rfl
theorem sevl_1 : sev 1 = [1] := by rw [sev_lt (by omega)]; rfl
theorem num_at {z most : Int} (hb : most ≤ 1000) {t : List UInt8} (h : numO z most = some t) {bs rest : List UInt8} {a : Nat} (hd : bs.drop a = t ++ rest) : smR bs a most = .ok z (a + t.length) := by
  unfold numO at h
  split at h
  · rename_i hh
    injection h with h
    subst h
    exact smR_at hh.1 hh.2 hb hd
  · cases h
theorem num_is {z most : Int} {bs : List UInt8} {a b : Nat} (h : smR bs a most = .ok z b) : numO z most = some (sev z.toNat) ∧ b = a + (sev z.toNat).length ∧ b ≤ bs.length ∧ bs.drop a = sev z.toNat ++ bs.drop b := by
  obtain ⟨h0, h1, h2, h3, h4⟩ := smR_is h
  exact ⟨by unfold numO; rw [if_pos ⟨h0, h1⟩], h2, h3, h4⟩
theorem ok_some {b : Bool} {t : List UInt8} (h : okO b = some t) : b = true ∧ t = [] := by
  unfold okO at h
  split at h
  · rename_i hb
    injection h with h
    exact ⟨hb, h.symm⟩
  · cases h

/-! ### What is laid is read -/
/-- f reads what g lays of x, as something that is like x under p. -/
def LawA {α β : Type} (f : List UInt8 → Nat → Rs α) (g : α → Lay) (p : α → β) (x : α) : Prop := ∀ (t bs : List UInt8) (a : Nat) (rest : List UInt8), g x = some t → bs.drop a = t ++ rest → ∃ y, f bs a = .ok y (a + t.length) ∧ p y = p x
section
variable {α β : Type} {f : List UInt8 → Nat → Rs α} {g : α → Lay} {p : α → β}
theorem rep_at : ∀ (xs : List α), (∀ x ∈ xs, LawA f g p x) → ∀ (t bs : List UInt8) (a : Nat) (rest : List UInt8), allO g xs = some t → bs.drop a = t ++ rest → ∃ l, repR f bs xs.length a = .ok l (a + t.length) ∧ (l.map Prod.fst).map p = xs.map p
  | [], _, t, bs, a, rest, h, _ => by
    injection h with h
    subst h
    exact ⟨[], rfl, rfl⟩
  | x :: xs, hl, t, bs, a, rest, h, hd => by
    obtain ⟨t1, t2, h1, h2, rfl⟩ := cat_some (show cat (g x) (allO g xs) = some t from h)
    rw [List.append_assoc] at hd
    obtain ⟨y, e1, e2⟩ := hl x (List.mem_cons_self) t1 bs a _ h1 hd
    obtain ⟨l, e3, e4⟩ := rep_at xs (fun z hz => hl z (List.mem_cons_of_mem _ hz)) t2 bs (a + t1.length) rest h2 (drop_next hd)
    refine ⟨(y, a) :: l, ?_, ?_⟩
    · rw [List.length_cons, repR, e1, Rs.bind_ok, e3, Rs.bind_ok, List.length_append, Nat.add_assoc]
    · rw [List.map_cons, List.map_cons, List.map_cons, e4, e2]
theorem lst_at {least most : Int} (hm : most ≤ 1000) {xs : List α} (hl : ∀ x ∈ xs, LawA f g p x) {t bs : List UInt8} {a : Nat} {rest : List UInt8} (h : listO g least most xs = some t) (hd : bs.drop a = t ++ rest) : ∃ l, lstR f least most bs a = .ok l (a + t.length) ∧ (l.map Prod.fst).map p = xs.map p := by
  unfold listO at h
  obtain ⟨t1, t2, h1, h2, rfl⟩ := cat_some h
  obtain ⟨hle, rfl⟩ := ok_some h1
  obtain ⟨t3, t4, h3, h4, rfl⟩ := cat_some h2
  rw [List.nil_append] at hd ⊢
  rw [List.append_assoc] at hd
  obtain ⟨l, e1, e2⟩ := rep_at xs hl t4 bs (a + t3.length) rest h4 (drop_next hd)
  refine ⟨l, ?_, e2⟩
  have hle' : ¬ ((xs.length : Int) < least) := by have := of_decide_eq_true hle; omega
  rw [lstR, num_at hm h3 hd, Rs.bind_ok, if_neg hle', Int.toNat_natCast, e1, List.length_append, Nat.add_assoc]
end
theorem edg_at (e : Edg) {t bs : List UInt8} {a : Nat} {rest : List UInt8} (h : edgO e = some t) (hd : bs.drop a = t ++ rest) : edgR bs a = .ok e (a + t.length) := by
  obtain ⟨t1, t2, h1, h2, rfl⟩ := cat_some (show cat (numO e.to 63) (numO e.sh 1000) = some t from h)
  rw [List.append_assoc] at hd
  rw [edgR, num_at (by omega) h1 hd, Rs.bind_ok, num_at (by omega) h2 (drop_next hd), Rs.bind_ok, List.length_append, Nat.add_assoc]
theorem edg_lawA (e : Edg) : LawA edgR edgO id e := fun _ _ _ _ h hd => ⟨e, edg_at e h hd, rfl⟩
theorem mark_at (b : Bool) {t bs : List UInt8} {a : Nat} {rest : List UInt8} (h : markO b = some t) (hd : bs.drop a = t ++ rest) : markR bs a = .ok b (a + t.length) := by
  injection h with h
  subst h
  cases b with
  | true =>
    have := num_at (z := 1) (most := 1) (by omega) (t := [1]) (by unfold numO; rw [if_pos (by omega)]; exact congrArg some sevl_1) hd
    rw [markR, this]
    rfl
  | false =>
    have := num_at (z := 0) (most := 1) (by omega) (t := [0]) (by unfold numO; rw [if_pos (by omega)]; exact congrArg some sevl_0) hd
    rw [markR, this]
    rfl
theorem only_some {l : List Edg} {t : List UInt8} (h : onlyO l = some t) : ∃ e, l = [e] ∧ edgO e = some t := by
  unfold onlyO at h
  split at h
  · exact ⟨_, rfl, h⟩
  · cases h
theorem map_id_ {α : Type} (l : List α) : l.map id = l := List.map_id l
theorem more_5 {p x y : Int} {c : Bool} {l : List Edg} (h : moreB ⟨5, p, c, ⟨x, y⟩, l⟩ = false) : p = 0 ∧ c = false ∧ x = 0 ∧ y = 0 := by
  cases c <;> simp [moreB] at h ⊢ <;> omega
theorem more_12 {k p x y : Int} {l : List Edg} (hk : k = 1 ∨ k = 2) (h : moreB ⟨k, p, false, ⟨x, y⟩, l⟩ = false) : x = 0 ∧ y = 0 := by
  rcases hk with rfl | rfl <;> simp [moreB] at h <;> omega
theorem more_34 {k p x y : Int} {c : Bool} {l : List Edg} (hk : k = 3 ∨ k = 4) (h : moreB ⟨k, p, c, ⟨x, y⟩, l⟩ = false) : c = false ∧ x = 0 ∧ y = 0 := by
  rcases hk with rfl | rfl <;> cases c <;> simp [moreB] at h ⊢ <;> omega
theorem more_0 {p x y : Int} {c : Bool} {l : List Edg} (h : moreB ⟨0, p, c, ⟨x, y⟩, l⟩ = false) : p = 0 ∧ c = false ∧ x = 0 ∧ y = 0 ∧ l = [] := by
  cases c <;> cases l <;> simp [moreB] at h ⊢ <;> omega
theorem nod_lawA (n : Nod) : LawA nodR nodO id n := fun t bs a rest h hd => by
  obtain ⟨t1, t2, h1, h2, rfl⟩ := cat_some (show cat (okO (!moreB n)) (cat (numO n.kind 5) (nodB n)) = some t from h)
  obtain ⟨hmo, rfl⟩ := ok_some h1
  obtain ⟨t3, t4, h3, h4, rfl⟩ := cat_some h2
  clear h h1 h2
  rw [List.nil_append] at hd ⊢
  rw [List.append_assoc] at hd
  have hd2 := drop_next hd
  refine ⟨n, ?_, rfl⟩
  have hk : 0 ≤ n.kind ∧ n.kind ≤ 5 := by
    unfold numO at h3
    split at h3
    · assumption
    · cases h3
  obtain ⟨k, pr, ch, ⟨pt, ps⟩, next⟩ := n
  have hmo' : moreB ⟨k, pr, ch, ⟨pt, ps⟩, next⟩ = false := by simpa using hmo
  clear hmo
  dsimp only at hk h3 ⊢
  rw [nodR, num_at (by omega) h3 hd, Rs.bind_ok]
  unfold nodB at h4
  dsimp only at h4
  by_cases h5 : k = 5
  · subst h5
    rw [if_pos rfl] at h4 ⊢
    obtain ⟨e, rfl, he⟩ := only_some h4
    obtain ⟨rfl, rfl, rfl, rfl⟩ := more_5 hmo'
    rw [edg_at e he hd2, Rs.bind_ok, List.length_append, Nat.add_assoc]
  · rw [if_neg h5] at h4 ⊢
    by_cases h12 : k = 1 ∨ k = 2
    · rw [if_pos h12] at h4 ⊢
      obtain ⟨u1, v1, g1, k1, rfl⟩ := cat_some h4
      obtain ⟨u2, v2, g2, k2, rfl⟩ := cat_some k1
      obtain ⟨u3, v3, g3, k3, rfl⟩ := cat_some k2
      obtain ⟨e, rfl, he⟩ := only_some k3
      clear h4 k1 k2 k3
      simp only [List.append_assoc] at hd2
      have d1 := drop_next hd2
      have d2 := drop_next d1
      have d3 := drop_next d2
      rw [num_at (by omega) g1 hd2, Rs.bind_ok, mark_at ch g2 d1, Rs.bind_ok]
      have hp : (if ch = true then edgR bs (a + t3.length + u1.length + u2.length) else .ok ⟨0, 0⟩ (a + t3.length + u1.length + u2.length)) = .ok ⟨pt, ps⟩ (a + t3.length + u1.length + u2.length + u3.length) := by
        cases ch with
        | true =>
          rw [if_pos rfl] at g3 ⊢
          exact edg_at _ g3 d2
        | false =>
          rw [if_neg (by decide)] at g3 ⊢
          injection g3 with g3
          subst g3
          obtain ⟨rfl, rfl⟩ := more_12 h12 hmo'
          rfl
      rw [hp, Rs.bind_ok, edg_at e he d3, Rs.bind_ok]
      simp only [List.length_append, Nat.add_assoc]
    · rw [if_neg h12] at h4 ⊢
      by_cases h34 : k = 3 ∨ k = 4
      · rw [if_pos h34] at h4 ⊢
        obtain ⟨u1, v1, g1, k1, rfl⟩ := cat_some h4
        rw [List.append_assoc] at hd2
        obtain ⟨l, e1, e2⟩ := lst_at (by omega) (fun x _ => edg_lawA x) k1 (drop_next hd2)
        rw [map_id_, map_id_] at e2
        obtain ⟨rfl, rfl, rfl⟩ := more_34 h34 hmo'
        rw [num_at (by omega) g1 hd2, Rs.bind_ok, e1, Rs.bind_ok, e2]
        simp only [List.length_append, Nat.add_assoc]
      · rw [if_neg h34] at h4 ⊢
        injection h4 with h4
        subst h4
        have hk0 : k = 0 := by omega
        subst hk0
        obtain ⟨rfl, rfl, rfl, rfl, rfl⟩ := more_0 hmo'
        rw [List.append_nil]
theorem par_lawA (x : Par) : LawA parR parO id x := fun t bs a rest h hd => by
  obtain ⟨t1, t2, h1, h2, rfl⟩ := cat_some (show cat (markO x.ch) (if x.ch then edgO x.ty else okO (x.ty.to == 0 && x.ty.sh == 0)) = some t from h)
  rw [List.append_assoc] at hd
  refine ⟨x, ?_, rfl⟩
  obtain ⟨ch, ⟨pt, ps⟩⟩ := x
  rw [parR, mark_at ch h1 hd, Rs.bind_ok]
  cases ch with
  | true =>
    rw [if_pos rfl] at h2 ⊢
    rw [edg_at _ h2 (drop_next hd), Rs.bind_ok, List.length_append, Nat.add_assoc]
  | false =>
    have h2' : okO (pt == 0 && ps == 0) = some t2 := h2
    obtain ⟨hz, rfl⟩ := ok_some h2'
    simp at hz
    obtain ⟨rfl, rfl⟩ := hz
    rw [List.append_nil]
    rfl
theorem ins_lawA {x : Ins} (hw : Whole x.a) : LawA readI insO id x := fun t bs a rest h hd => by
  unfold insO at h
  split at h
  · rename_i hc
    injection h with h
    subst h
    exact ⟨x, readI_at hc hw hd, rfl⟩
  · cases h
theorem arg_lawA {x : Arg} (hw : Whole x.word) : LawA argR argO id x := fun t bs a rest h hd => by
  obtain ⟨t1, t2, h1, h2, rfl⟩ := cat_some (show cat (markO x.ch) (if x.ch then cat (okO (x.word == 0)) (numO x.end_ 31) else cat (okO (x.end_ == 0)) (some (sev (foldN x.word)))) = some t from h)
  rw [List.append_assoc] at hd
  refine ⟨x, ?_, rfl⟩
  obtain ⟨ch, wd, en⟩ := x
  dsimp only at hw h1 h2
  rw [argR, mark_at ch h1 hd, Rs.bind_ok]
  cases ch with
  | true =>
    rw [if_pos rfl] at h2 ⊢
    obtain ⟨u1, v1, g1, g2, rfl⟩ := cat_some h2
    obtain ⟨hz, rfl⟩ := ok_some g1
    simp at hz
    subst hz
    rw [num_at (by omega) g2 (drop_next hd), Rs.bind_ok, List.length_append, Nat.add_assoc, List.nil_append]
  | false =>
    rw [if_neg (by decide)] at h2 ⊢
    obtain ⟨u1, v1, g1, g2, rfl⟩ := cat_some h2
    obtain ⟨hz, rfl⟩ := ok_some g1
    simp at hz
    subst hz
    injection g2 with g2
    subst g2
    rw [sR_at hw (drop_next hd), Rs.bind_ok, List.length_append, Nat.add_assoc, List.nil_append]
theorem sta_lawA {x : Sta} (hw : ∀ y ∈ x.args, Whole y.word) : LawA staR staO id x := fun t bs a rest h hd => by
  obtain ⟨t1, t2, h1, h2, rfl⟩ := cat_some (show cat (numO x.tpl 15) (listO argO 0 8 x.args) = some t from h)
  rw [List.append_assoc] at hd
  obtain ⟨l, e1, e2⟩ := lst_at (by omega) (fun y hy => arg_lawA (hw y hy)) h2 (drop_next hd)
  rw [map_id_, map_id_] at e2
  refine ⟨x, ?_, rfl⟩
  rw [staR, num_at (by omega) h1 hd, Rs.bind_ok, e1, Rs.bind_ok, e2, List.length_append, Nat.add_assoc]
/-- A template but for where its instructions stand. -/
def tplP (t : Tpl) : List Par × List Ins := (t.params, t.code)
theorem tpl_lawA (bg : Nat) {x : Tpl} (hw : ∀ y ∈ x.code, Whole y.a) : LawA (tplR bg) tplO tplP x := fun t bs a rest h hd => by
  obtain ⟨t1, t2, h1, h2, rfl⟩ := cat_some (show cat (listO parO 0 8 x.params) (listO insO 1 128 x.code) = some t from h)
  rw [List.append_assoc] at hd
  obtain ⟨l, e1, e2⟩ := lst_at (by omega) (fun y _ => par_lawA y) h1 hd
  obtain ⟨k, e3, e4⟩ := lst_at (by omega) (fun y hy => ins_lawA (hw y hy)) h2 (drop_next hd)
  rw [map_id_, map_id_] at e2 e4
  refine ⟨⟨l.map Prod.fst, k.map Prod.fst, ats bg k⟩, ?_, ?_⟩
  · rw [tplR, e1, Rs.bind_ok, e3, Rs.bind_ok, List.length_append, Nat.add_assoc]
  · show (_, _) = (_, _)
    rw [e2, e4]
theorem endM_ok {α : Type} {bs : List UInt8} {v : α} : endR bs (.ok v bs.length) = .ok v bs.length := by
  unfold endR
  rw [Rs.bind_ok, if_pos rfl]
/-- What is laid of a module is read as it, but for places. -/
theorem mod_at {m : Mo} (h1 : ∀ t ∈ m.tpls, ∀ x ∈ t.code, Whole x.a) (h2 : ∀ s ∈ m.starts, ∀ a ∈ s.args, Whole a.word) {a b c : List UInt8} (ha : typesO m = some a) (hb : tplsO m = some b) (hc : bootO m = some c) (p1 p2 p3 : Nat) :
    ∃ m', readT p1 p2 p3 a b c = .ok m' ∧ m'.nodes = m.nodes ∧ m'.tpls.map tplP = m.tpls.map tplP ∧ m'.chans = m.chans ∧ m'.starts = m.starts := by
  obtain ⟨l, e1, e2⟩ := lst_at (by omega) (fun x _ => nod_lawA x) (show listO nodO 0 64 m.nodes = some a from ha) (show a.drop 0 = a ++ [] by simp)
  obtain ⟨k, e3, e4⟩ := lst_at (by omega) (fun x hx => tpl_lawA p2 (h1 x hx)) (show listO tplO 0 16 m.tpls = some b from hb) (show b.drop 0 = b ++ [] by simp)
  obtain ⟨u, v, g1, g2, rfl⟩ := cat_some (show cat (listO edgO 0 16 m.chans) (listO staO 0 8 m.starts) = some c from hc)
  obtain ⟨j, e5, e6⟩ := lst_at (by omega) (fun x _ => edg_lawA x) g1 (show (u ++ v).drop 0 = u ++ v by simp)
  obtain ⟨i, e7, e8⟩ := lst_at (by omega) (fun x hx => sta_lawA (h2 x hx)) g2 (show (u ++ v).drop (0 + u.length) = v ++ [] by simp)
  rw [map_id_, map_id_] at e2 e6 e8
  rw [Nat.zero_add] at e1 e3 e5 e7
  have f1 : typesR a = .ok l a.length := by rw [typesR, e1]; exact endM_ok
  have f2 : tplsR p2 b = .ok k b.length := by rw [tplsR, e3]; exact endM_ok
  have f3 : bootR (u ++ v) = .ok (j, i) (u ++ v).length := by
    rw [bootR, e5, Rs.bind_ok, e7, Rs.bind_ok, ← List.length_append]; exact endM_ok
  refine ⟨_, by rw [readT, f1, f2, f3]; rfl, e2, e4, e6, e8⟩

/-! ### What is read is what is laid -/
/-- Numbers that rise, from lo on, below hi. -/
def Asc (lo hi : Nat) : List Nat → Prop
  | [] => lo ≤ hi
  | p :: l => lo ≤ p ∧ Asc (p + 1) hi l
theorem Asc.le {hi : Nat} : ∀ {l : List Nat} {lo : Nat}, Asc lo hi l → lo ≤ hi
  | [], _, h => h
  | _ :: _, _, h => by have := Asc.le h.2; have := h.1; omega
theorem Asc.down {hi lo lo' : Nat} {l : List Nat} (h : Asc lo hi l) (hl : lo' ≤ lo) : Asc lo' hi l := by
  cases l with
  | nil => exact Nat.le_trans hl h
  | cons p l => exact ⟨Nat.le_trans hl h.1, h.2⟩
theorem Asc.up {hi hi' : Nat} : ∀ {l : List Nat} {lo : Nat}, Asc lo hi l → hi ≤ hi' → Asc lo hi' l
  | [], _, h, hh => Nat.le_trans h hh
  | _ :: _, _, h, hh => ⟨h.1, Asc.up h.2 hh⟩
theorem Asc.append {hi mid : Nat} : ∀ {l k : List Nat} {lo : Nat}, Asc lo mid l → Asc mid hi k → Asc lo hi (l ++ k)
  | [], _, _, h, h' => h'.down h
  | _ :: _, _, _, h, h' => ⟨h.1, Asc.append h.2 h'⟩
/-- f reads what g lays of it; F tells more of it, by its place. -/
def LawB {α : Type} (f : List UInt8 → Nat → Rs α) (g : α → Lay) (F : List UInt8 → Nat → α → Prop) : Prop := ∀ (bs : List UInt8) (a : Nat) (y : α) (b : Nat), f bs a = .ok y b → ∃ t, g y = some t ∧ bs.drop a = t ++ bs.drop b ∧ b = a + t.length ∧ b ≤ bs.length ∧ 1 ≤ t.length ∧ F bs a y
section
variable {α : Type} {f : List UInt8 → Nat → Rs α} {g : α → Lay} {F : List UInt8 → Nat → α → Prop}
theorem rep_is (hf : LawB f g F) {bs : List UInt8} : ∀ (n a : Nat) (l : List (α × Nat)) (b : Nat), a ≤ bs.length → repR f bs n a = .ok l b → l.length = n ∧ ∃ t, allO g (l.map Prod.fst) = some t ∧ bs.drop a = t ++ bs.drop b ∧ b = a + t.length ∧ b ≤ bs.length ∧ Asc a b (l.map Prod.snd) ∧ ∀ p ∈ l, F bs p.2 p.1
  | 0, a, l, b, ha, h => by
    injection h with h1 h2
    subst h1 h2
    exact ⟨rfl, [], rfl, by simp, by simp, ha, Nat.le_refl _, fun p hp => by cases hp⟩
  | n + 1, a, l, b, ha, h => by
    rw [repR] at h
    obtain ⟨x, c, h1, h2⟩ := Rs.bind_is h
    obtain ⟨l', d, h3, h4⟩ := Rs.bind_is h2
    injection h4 with h5 h6
    subst h5 h6
    obtain ⟨t1, e1, e2, e3, e4, e5, e6⟩ := hf bs a x c h1
    obtain ⟨hn, t2, g1, g2, g3, g4, g5, g6⟩ := rep_is hf n c l' d e4 h3
    refine ⟨by rw [List.length_cons, hn], t1 ++ t2, ?_, ?_, ?_, g4, ⟨Nat.le_refl _, g5.down (by omega)⟩, fun p hp => ?_⟩
    · show cat (g x) (allO g (l'.map Prod.fst)) = _
      rw [e1, g1]; rfl
    · rw [e2, g2, List.append_assoc]
    · rw [List.length_append]; omega
    · rcases List.mem_cons.1 hp with rfl | hp
      · exact e6
      · exact g6 p hp
theorem lst_is (hf : LawB f g F) {least most : Int} {bs : List UInt8} {a : Nat} {l : List (α × Nat)} {b : Nat} (h : lstR f least most bs a = .ok l b) :
    ∃ t, listO g least most (l.map Prod.fst) = some t ∧ bs.drop a = t ++ bs.drop b ∧ b = a + t.length ∧ b ≤ bs.length ∧ 1 ≤ t.length ∧ Asc (a + 1) b (l.map Prod.snd) ∧ ∀ p ∈ l, F bs p.2 p.1 := by
  rw [lstR] at h
  obtain ⟨n, c, h1, h2⟩ := Rs.bind_is h
  split at h2
  · cases h2
  · rename_i hle
    obtain ⟨e1, e2, e3, e4⟩ := num_is h1
    obtain ⟨hn, t, g1, g2, g3, g4, g5, g6⟩ := rep_is hf n.toNat c l b e3 h2
    have hn0 : 0 ≤ n := by
      unfold numO at e1
      split at e1
      · rename_i hh; exact hh.1
      · cases e1
    have hp := sev_pos n.toNat
    refine ⟨sev n.toNat ++ t, ?_, ?_, ?_, g4, ?_, g5.down (by omega), g6⟩
    · unfold listO
      rw [List.length_map, hn, show ((n.toNat : Nat) : Int) = n by omega]
      have : okO (decide (least ≤ n)) = some [] := by rw [decide_eq_true (by omega)]; rfl
      rw [this, e1, g1]; rfl
    · rw [e4, g2, List.append_assoc]
    · rw [List.length_append]; omega
    · rw [List.length_append]; omega
end
theorem edg_is {bs : List UInt8} {a b : Nat} {y : Edg} (h : edgR bs a = .ok y b) : ∃ t, edgO y = some t ∧ bs.drop a = t ++ bs.drop b ∧ b = a + t.length ∧ b ≤ bs.length ∧ 1 ≤ t.length := by
  rw [edgR] at h
  obtain ⟨p, c, h1, h2⟩ := Rs.bind_is h
  obtain ⟨q, d, h3, h4⟩ := Rs.bind_is h2
  injection h4 with h5 h6
  subst h5 h6
  obtain ⟨e1, e2, e3, e4⟩ := num_is h1
  obtain ⟨g1, g2, g3, g4⟩ := num_is h3
  have hp := sev_pos p.toNat
  refine ⟨sev p.toNat ++ sev q.toNat, ?_, ?_, ?_, g3, ?_⟩
  · show cat (numO p 63) (numO q 1000) = _
    rw [e1, g1]; rfl
  · rw [e4, g4, List.append_assoc]
  · rw [List.length_append]; omega
  · rw [List.length_append]; omega
theorem edg_lawB : LawB edgR edgO (fun _ _ _ => True) := fun bs a y b h => by
  obtain ⟨t, h1, h2, h3, h4, h5⟩ := edg_is h
  exact ⟨t, h1, h2, h3, h4, h5, trivial⟩
theorem mark_is {bs : List UInt8} {a b : Nat} {m : Bool} (h : markR bs a = .ok m b) : ∃ t, markO m = some t ∧ bs.drop a = t ++ bs.drop b ∧ b = a + t.length ∧ b ≤ bs.length ∧ 1 ≤ t.length := by
  rw [markR] at h
  obtain ⟨z, c, h1, h2⟩ := Rs.bind_is h
  injection h2 with h3 h4
  subst h3 h4
  obtain ⟨h0, hm, -⟩ := smR_is h1
  obtain ⟨e1, e2, e3, e4⟩ := num_is h1
  have hz : z = 0 ∨ z = 1 := by omega
  rcases hz with rfl | rfl
  · rw [show Int.toNat 0 = 0 from rfl, sevl_0] at e2 e4
    exact ⟨[0], rfl, e4, e2, e3, by simp⟩
  · rw [show Int.toNat 1 = 1 from rfl, sevl_1] at e2 e4
    exact ⟨[1], rfl, e4, e2, e3, by simp⟩
theorem nodO_of {n : Nod} {t u : List UInt8} (hm : moreB n = false) (hk : numO n.kind 5 = some t) (hb : nodB n = some u) : nodO n = some (t ++ u) := by
  unfold nodO
  rw [hm, hk, hb]; rfl
theorem nod_lawB : LawB nodR nodO (fun _ _ _ => True) := fun bs a y b h => by
  rw [nodR] at h
  obtain ⟨k, c, h1, h2⟩ := Rs.bind_is h
  obtain ⟨h0, hm, -⟩ := smR_is h1
  obtain ⟨e1, e2, e3, e4⟩ := num_is h1
  have hp := sev_pos k.toNat
  by_cases h5 : k = 5
  · subst h5
    rw [if_pos rfl] at h2
    obtain ⟨e, d, h3, h4⟩ := Rs.bind_is h2
    injection h4 with h5 h6
    subst h5 h6
    obtain ⟨t, g1, g2, g3, g4, g5⟩ := edg_is h3
    refine ⟨_, nodO_of (n := ⟨5, 0, false, ⟨0, 0⟩, [e]⟩) (by simp [moreB]) e1 (show onlyO [e] = some t from g1), by rw [e4, g2, List.append_assoc], by rw [List.length_append]; omega, g4, by rw [List.length_append]; omega, trivial⟩
  · rw [if_neg h5] at h2
    by_cases h12 : k = 1 ∨ k = 2
    · rw [if_pos h12] at h2
      obtain ⟨p, d, h3, h4⟩ := Rs.bind_is h2
      obtain ⟨m, d2, k3, k4⟩ := Rs.bind_is h4
      obtain ⟨y2, d3, k5, k6⟩ := Rs.bind_is k4
      obtain ⟨x, d4, k7, k8⟩ := Rs.bind_is k6
      injection k8 with k9 k10
      subst k9 k10
      obtain ⟨f1, f2, f3, f4⟩ := num_is h3
      obtain ⟨t2, g1, g2, g3, g4, g5⟩ := mark_is k3
      obtain ⟨t4, i1, i2, i3, i4, i5⟩ := edg_is k7
      have hpay : ∃ t3, (if m = true then edgO y2 else some []) = some t3 ∧ bs.drop d2 = t3 ++ bs.drop d3 ∧ d3 = d2 + t3.length ∧ (m = false → y2 = ⟨0, 0⟩) := by
        cases m with
        | true =>
          rw [if_pos rfl] at k5
          obtain ⟨t, j1, j2, j3, j4, j5⟩ := edg_is k5
          exact ⟨t, by rw [if_pos rfl]; exact j1, j2, j3, fun e => by cases e⟩
        | false =>
          rw [if_neg (by decide)] at k5
          injection k5 with k5 k5'
          subst k5 k5'
          exact ⟨[], rfl, by simp, by simp, fun _ => rfl⟩
      obtain ⟨t3, j1, j2, j3, j4⟩ := hpay
      have hmo : moreB ⟨k, p, m, y2, [x]⟩ = false := by
        cases m with
        | true => rcases h12 with rfl | rfl <;> simp [moreB]
        | false =>
          have := j4 rfl
          subst this
          rcases h12 with rfl | rfl <;> simp [moreB]
      have hb : nodB ⟨k, p, m, y2, [x]⟩ = some (sev p.toNat ++ (t2 ++ (t3 ++ t4))) := by
        unfold nodB
        dsimp only
        rw [if_neg h5, if_pos h12, f1, g1, j1, show onlyO [x] = some t4 from i1]; rfl
      refine ⟨_, nodO_of hmo e1 hb, by rw [e4, f4, g2, j2, i2]; simp only [List.append_assoc], by simp only [List.length_append]; omega, i4, by rw [List.length_append]; omega, trivial⟩
    · rw [if_neg h12] at h2
      by_cases h34 : k = 3 ∨ k = 4
      · rw [if_pos h34] at h2
        obtain ⟨p, d, h3, h4⟩ := Rs.bind_is h2
        obtain ⟨l, d2, k3, k4⟩ := Rs.bind_is h4
        injection k4 with k9 k10
        subst k9 k10
        obtain ⟨f1, f2, f3, f4⟩ := num_is h3
        obtain ⟨t, g1, g2, g3, g4, g5, g6, -⟩ := lst_is edg_lawB k3
        have hmo : moreB ⟨k, p, false, ⟨0, 0⟩, l.map Prod.fst⟩ = false := by rcases h34 with rfl | rfl <;> simp [moreB]
        have hb : nodB ⟨k, p, false, ⟨0, 0⟩, l.map Prod.fst⟩ = some (sev p.toNat ++ t) := by
          unfold nodB
          dsimp only
          rw [if_neg h5, if_neg h12, if_pos h34, f1, g1]; rfl
        refine ⟨_, nodO_of hmo e1 hb, by rw [e4, f4, g2]; simp only [List.append_assoc], by simp only [List.length_append]; omega, g4, by rw [List.length_append]; omega, trivial⟩
      · rw [if_neg h34] at h2
        injection h2 with k9 k10
        subst k9 k10
        have hk0 : k = 0 := by omega
        subst hk0
        refine ⟨_, nodO_of (n := ⟨0, 0, false, ⟨0, 0⟩, []⟩) (by simp [moreB]) e1 (show nodB _ = some [] by simp [nodB]), by rw [List.append_nil]; exact e4, by rw [List.append_nil]; exact e2, e3, by rw [List.append_nil]; exact hp, trivial⟩
theorem par_lawB : LawB parR parO (fun _ _ _ => True) := fun bs a y b h => by
  rw [parR] at h
  obtain ⟨m, c, h1, h2⟩ := Rs.bind_is h
  obtain ⟨t, g1, g2, g3, g4, g5⟩ := mark_is h1
  cases m with
  | true =>
    rw [if_pos rfl] at h2
    obtain ⟨e, d, h3, h4⟩ := Rs.bind_is h2
    injection h4 with h5 h6
    subst h5 h6
    obtain ⟨u, j1, j2, j3, j4, j5⟩ := edg_is h3
    refine ⟨t ++ u, ?_, by rw [g2, j2, List.append_assoc], by rw [List.length_append]; omega, j4, by rw [List.length_append]; omega, trivial⟩
    show cat (markO true) (edgO e) = _
    rw [g1, j1]; rfl
  | false =>
    rw [if_neg (by decide)] at h2
    injection h2 with h5 h6
    subst h5 h6
    refine ⟨t, ?_, g2, g3, g4, g5, trivial⟩
    show cat (markO false) (some []) = _
    rw [g1, cat_nil]
/-- Of an instruction: its op's byte stands at its place. -/
def InsF (bs : List UInt8) (a : Nat) (x : Ins) : Prop := Whole x.a ∧ bs[a]? = some (UInt8.ofNat x.op.toNat)
theorem ins_lawB : LawB readI insO InsF := fun bs a y b h => by
  obtain ⟨h1, h2, h3, h4, h5⟩ := readI_is h
  refine ⟨bytesI y, by unfold insO; rw [if_pos h1], h5, h3, h4, by simp [bytesI], h2, ?_⟩
  have : (bs.drop a)[0]? = some (UInt8.ofNat y.op.toNat) := by rw [h5]; rfl
  rwa [List.getElem?_drop, Nat.add_zero] at this
theorem arg_lawB : LawB argR argO (fun _ _ x => Whole x.word) := fun bs a y b h => by
  rw [argR] at h
  obtain ⟨m, c, h1, h2⟩ := Rs.bind_is h
  obtain ⟨t, g1, g2, g3, g4, g5⟩ := mark_is h1
  cases m with
  | true =>
    rw [if_pos rfl] at h2
    obtain ⟨e, d, h3, h4⟩ := Rs.bind_is h2
    injection h4 with h5 h6
    subst h5 h6
    obtain ⟨j1, j2, j3, j4⟩ := num_is h3
    refine ⟨t ++ sev e.toNat, ?_, by rw [g2, j4, List.append_assoc], by rw [List.length_append]; omega, j3, by rw [List.length_append]; omega, by show Whole 0; unfold Whole; omega⟩
    show cat (markO true) (cat (some []) (numO e 31)) = _
    rw [g1, j1]; rfl
  | false =>
    rw [if_neg (by decide)] at h2
    obtain ⟨z, d, h3, h4⟩ := Rs.bind_is h2
    injection h4 with h5 h6
    subst h5 h6
    obtain ⟨j0, j2, j3, j4⟩ := sR_is h3
    refine ⟨t ++ sev (foldN z), ?_, by rw [g2, j4, List.append_assoc], by rw [List.length_append]; omega, j3, by rw [List.length_append]; omega, j0⟩
    show cat (markO false) (cat (some []) (some (sev (foldN z)))) = _
    rw [g1]; rfl
theorem mem_fst {α : Type} {l : List (α × Nat)} {x : α} (h : x ∈ l.map Prod.fst) : ∃ q, (x, q) ∈ l := by
  obtain ⟨p, hp, rfl⟩ := List.mem_map.1 h
  exact ⟨p.2, hp⟩
theorem sta_lawB : LawB staR staO (fun _ _ x => ∀ y ∈ x.args, Whole y.word) := fun bs a y b h => by
  rw [staR] at h
  obtain ⟨t, c, h1, h2⟩ := Rs.bind_is h
  obtain ⟨l, d, h3, h4⟩ := Rs.bind_is h2
  injection h4 with h5 h6
  subst h5 h6
  obtain ⟨e1, e2, e3, e4⟩ := num_is h1
  obtain ⟨u, g1, g2, g3, g4, g5, g6, g7⟩ := lst_is arg_lawB h3
  refine ⟨sev t.toNat ++ u, ?_, by rw [e4, g2, List.append_assoc], by rw [List.length_append]; omega, g4, by rw [List.length_append]; omega, fun x hx => ?_⟩
  · show cat (numO t 15) (listO argO 0 8 (l.map Prod.fst)) = _
    rw [e1, g1]; rfl
  · obtain ⟨q, hq⟩ := mem_fst hx
    exact g7 _ hq
/-- Of a template that is read at a: where its instructions stand, as bytes that begin at bg tell it. -/
structure TplF (bg : Nat) (bs : List UInt8) (a : Nat) (x : Tpl) : Prop where
  w : ∀ y ∈ x.code, Whole y.a
  ps : ∃ ps : List Nat, x.at_ = ps.map (fun p => ((bg + p : Nat) : Int)) ∧ ps.length = x.code.length ∧ Asc (a + 1) bs.length ps ∧ ∀ (j p : Nat) (y : Ins), ps[j]? = some p → x.code[j]? = some y → bs[p]? = some (UInt8.ofNat y.op.toNat)
theorem tpl_lawB (bg : Nat) : LawB (tplR bg) tplO (TplF bg) := fun bs a y b h => by
  rw [tplR] at h
  obtain ⟨l, c, h1, h2⟩ := Rs.bind_is h
  obtain ⟨k, d, h3, h4⟩ := Rs.bind_is h2
  injection h4 with h5 h6
  subst h5 h6
  obtain ⟨t, e1, e2, e3, e4, e5, e6, e7⟩ := lst_is par_lawB h1
  obtain ⟨u, g1, g2, g3, g4, g5, g6, g7⟩ := lst_is ins_lawB h3
  refine ⟨t ++ u, ?_, by rw [e2, g2, List.append_assoc], by rw [List.length_append]; omega, g4, by rw [List.length_append]; omega, fun x hx => ?_, k.map Prod.snd, ?_, by simp, (g6.down (by omega)).up g4, fun j p y hp hy => ?_⟩
  · show cat (listO parO 0 8 (l.map Prod.fst)) (listO insO 1 128 (k.map Prod.fst)) = _
    rw [e1, g1]; rfl
  · obtain ⟨q, hq⟩ := mem_fst hx
    exact (g7 _ hq).1
  · show ats bg k = _
    rw [ats, List.map_map]; rfl
  · rw [List.getElem?_map] at hp
    have hy' : (k.map Prod.fst)[j]? = some y := hy
    rw [List.getElem?_map] at hy'
    obtain ⟨q, hq, rfl⟩ := Option.map_eq_some_iff.1 hp
    rw [hq] at hy'
    injection hy' with hy'
    subst hy'
    exact (g7 q (List.mem_of_getElem? hq)).2
theorem endR_is {α : Type} {bs : List UInt8} {r : Rs α} {v : α} {b : Nat} (h : endR bs r = .ok v b) : r = .ok v bs.length ∧ b = bs.length := by
  unfold endR at h
  obtain ⟨u, c, h1, h2⟩ := Rs.bind_is h
  split at h2
  · rename_i hc
    injection h2 with h3 h4
    subst h3 h4 hc
    exact ⟨h1, rfl⟩
  · cases h2
/-- Where a module's things stand, that is read of three texts at p1, p2, p3. -/
structure ModF (p1 p2 p3 : Nat) (a b c : List UInt8) (m : Mo) : Prop where
  ty : typesO m = some a
  tp : tplsO m = some b
  bt : bootO m = some c
  fit : ∀ s ∈ m.starts, ∀ y ∈ s.args, Whole y.word
  at_ : ∃ q0 q1 q2 q3 : List Nat, m.at0 = q0.map (fun p => ((p1 + p : Nat) : Int)) ∧ m.at1 = q1.map (fun p => ((p2 + p : Nat) : Int)) ∧ m.at2 = q2.map (fun p => ((p3 + p : Nat) : Int)) ∧ m.at3 = q3.map (fun p => ((p3 + p : Nat) : Int)) ∧
    q0.length = m.nodes.length ∧ q1.length = m.tpls.length ∧ q2.length = m.chans.length ∧ q3.length = m.starts.length ∧ Asc 1 a.length q0 ∧ Asc 1 b.length q1 ∧ Asc 1 c.length (q2 ++ q3) ∧
    ∀ (k p : Nat) (t : Tpl), q1[k]? = some p → m.tpls[k]? = some t → TplF p2 b p t
theorem mod_is {p1 p2 p3 : Nat} {a b c : List UInt8} {m : Mo} (h : readT p1 p2 p3 a b c = .ok m) : ModF p1 p2 p3 a b c m := by
  unfold readT at h
  have hs : ∀ {α : Type} {bg : Nat} {r : Rs α} {f : α → MR} {m : Mo}, secM bg r f = .ok m → ∃ v b, r = .ok v b ∧ f v = .ok m := by
    intro α bg r f m h
    cases r with
    | ok v b => exact ⟨v, b, rfl, h⟩
    | flt c y b => cases h
  obtain ⟨ns, b1, h1, h2⟩ := hs h
  obtain ⟨ts, b2, h3, h4⟩ := hs h2
  obtain ⟨x, b3, h5, h6⟩ := hs h4
  injection h6 with h6
  subst h6
  obtain ⟨k1, -⟩ := endR_is h1
  obtain ⟨k2, -⟩ := endR_is h3
  obtain ⟨k3, -⟩ := endR_is h5
  obtain ⟨cs, c1, g1, g2⟩ := Rs.bind_is k3
  obtain ⟨ss, c2, g3, g4⟩ := Rs.bind_is g2
  injection g4 with g5 g6
  subst g5 g6
  obtain ⟨t1, e1, e2, e3, e4, e5, e6, e7⟩ := lst_is nod_lawB k1
  obtain ⟨t2, i1, i2, i3, i4, i5, i6, i7⟩ := lst_is (tpl_lawB p2) k2
  obtain ⟨t3, j1, j2, j3, j4, j5, j6, j7⟩ := lst_is edg_lawB g1
  obtain ⟨t4, l1, l2, l3, l4, l5, l6, l7⟩ := lst_is sta_lawB g3
  simp only [List.drop_zero, List.drop_length, List.append_nil] at e2 i2 j2 l2
  have ey : a = t1 := e2
  have iy : b = t2 := i2
  have jy : c = t3 ++ t4 := by rw [j2, l2]
  refine ⟨by rw [ey]; exact e1, by rw [iy]; exact i1, ?_, fun s hs => ?_, ns.map Prod.snd, ts.map Prod.snd, cs.map Prod.snd, ss.map Prod.snd, ?_, ?_, ?_, ?_, by simp, by simp, by simp, by simp, e6, i6, ?_, fun k p t hp ht => ?_⟩
  · show cat (listO edgO 0 16 (cs.map Prod.fst)) (listO staO 0 8 (ss.map Prod.fst)) = _
    rw [j1, l1, jy]; rfl
  · obtain ⟨q, hq⟩ := mem_fst hs
    exact l7 _ hq
  · show ats p1 ns = _
    rw [ats, List.map_map]; rfl
  · show ats p2 ts = _
    rw [ats, List.map_map]; rfl
  · show ats p3 cs = _
    rw [ats, List.map_map]; rfl
  · show ats p3 ss = _
    rw [ats, List.map_map]; rfl
  · exact Asc.append j6 (l6.down (by omega))
  · rw [List.getElem?_map] at hp
    have ht' : (ts.map Prod.fst)[k]? = some t := ht
    rw [List.getElem?_map] at ht'
    obtain ⟨q, hq, rfl⟩ := Option.map_eq_some_iff.1 hp
    rw [hq] at ht'
    injection ht' with ht'
    subst ht'
    exact i7 q (List.mem_of_getElem? hq)
end Go.Proofs.YtohhojbeclbedaaGreatDoor

namespace Go.Proofs.YtohhojbeclbedaaGreatDoor
open Go.ChangeShapes Go.WideShapes Go.RowKit Go.Deep

theorem ListA.mono {α : Type} {E E' : Enc α} {sz : Nat} {S : Nat → Prop} {W : World} {v : Value} {xs : List α} (h : ListA E sz S W v xs) (hE : ∀ x cs, E S W x cs → E' S W x cs) : ListA E' sz S W v xs := by
  obtain ⟨A, c, h1, h2, h3, h4⟩ := h
  refine ⟨A, c, h1, h2, h3, fun hn => ?_⟩
  obtain ⟨b, off, h5, h6, h7⟩ := h4 hn
  refine ⟨b, off, h5, h6, fun i x hx => ?_⟩
  obtain ⟨cs, h8, h9⟩ := h7 i x hx
  exact ⟨cs, hE x cs h8, h9⟩
/-- An instruction, with its list's room. -/
def InsR : Enc Ins := fun S W x cs => ∃ lv, cs = #[.int .i64 x.op, .int .i64 x.a, .int .i64 x.b, .int .i64 x.c, .int .i64 x.d, lv] ∧ ListA IntE 1 S W lv x.l
def TplR : Enc Tpl := fun S W t cs => ∃ pv cv av, cs = #[pv, cv, av] ∧ ListA ParE 3 S W pv t.params ∧ ListA InsR 6 S W cv t.code ∧ ListA IntE 1 S W av t.at_
theorem insR_ok : InsR.Ok 6 := ⟨fun ⟨nv, h1, h2⟩ hk => ⟨nv, h1, h2.kept int_ok hk⟩, fun ⟨nv, h1, h2⟩ hk => ⟨nv, h1, h2.more int_ok (by omega) hk⟩, fun ⟨_, h, _⟩ => by rw [h]; rfl⟩
theorem tplR_ok : TplR.Ok 3 := ⟨fun ⟨pv, cv, av, h1, h2, h3, h4⟩ hk => ⟨pv, cv, av, h1, h2.kept par_ok hk, h3.kept insR_ok hk, h4.kept int_ok hk⟩, fun ⟨pv, cv, av, h1, h2, h3, h4⟩ hk => ⟨pv, cv, av, h1, h2.more par_ok (by omega) hk, h3.more insR_ok (by omega) hk, h4.more int_ok (by omega) hk⟩, fun ⟨_, _, _, h, _⟩ => by rw [h]; rfl⟩
theorem InsR.ins {S : Nat → Prop} {W : World} {x : Ins} {cs : Array Value} (h : InsR S W x cs) : InsE S W x cs := by
  obtain ⟨lv, h1, h2⟩ := h
  exact ⟨lv, h1, h2.ints⟩
theorem TplR.tpl {S : Nat → Prop} {W : World} {x : Tpl} {cs : Array Value} (h : TplR S W x cs) : TplE S W x cs := by
  obtain ⟨pv, cv, av, h1, h2, h3, h4⟩ := h
  exact ⟨pv, cv, av, h1, h2, h3.mono fun _ _ => InsR.ins, h4⟩

section
variable {H : Type} {enc : TypeId × Value → H} {W : World}
variable {fuel : Nat} {x : DataW H × List MemPlace} {cs : List Value}
instance : Inhabited Edg := ⟨⟨0, 0⟩⟩
instance : Inhabited Nod := ⟨⟨0, 0, false, default, []⟩⟩
instance : Inhabited Par := ⟨⟨false, default⟩⟩
instance : Inhabited Ins := ⟨⟨0, 0, 0, 0, 0, []⟩⟩
instance : Inhabited Tpl := ⟨⟨[], [], []⟩⟩
instance : Inhabited Arg := ⟨⟨false, 0, 0⟩⟩
instance : Inhabited Sta := ⟨⟨0, []⟩⟩
/-- A module that was handed in: its lists lie in blocks below N. -/
structure ModA (N : Nat) (W : World) (v : Value) (m : Mo) : Prop where
  is : ∃ v0 v1 v2 v3 v4 v5 v6 v7, v = .agg #[v0, v1, v2, v3, v4, v5, v6, v7] ∧ ListA NodE 6 (fun b => b < N) W v0 m.nodes ∧ ListA TplR 3 (fun b => b < N) W v1 m.tpls ∧ ListA EdgE 2 (fun b => b < N) W v2 m.chans ∧ ListA StaE 2 (fun b => b < N) W v3 m.starts ∧
    ListA IntE 1 (fun b => b < N) W v4 m.at0 ∧ ListA IntE 1 (fun b => b < N) W v5 m.at1 ∧ ListA IntE 1 (fun b => b < N) W v6 m.at2 ∧ ListA IntE 1 (fun b => b < N) W v7 m.at3
  code : ∀ t ∈ m.tpls, ∀ x ∈ t.code, Whole x.a
  args : ∀ s ∈ m.starts, ∀ a ∈ s.args, Whole a.word
theorem ModA.keptS {N : Nat} {W W' : World} {v : Value} {m : Mo} (h : ModA N W v m) (hk : KeptS (fun b => b < N) W W') : ModA N W' v m := by
  obtain ⟨⟨v0, v1, v2, v3, v4, v5, v6, v7, e, l0, l1, l2, l3, l4, l5, l6, l7⟩, h1, h2⟩ := h
  exact ⟨⟨v0, v1, v2, v3, v4, v5, v6, v7, e, l0.kept nod_ok hk, l1.kept tplR_ok hk, l2.kept edg_ok hk, l3.kept sta_ok hk, l4.kept int_ok hk, l5.kept int_ok hk, l6.kept int_ok hk, l7.kept int_ok hk⟩, h1, h2⟩
theorem ModA.kept {N : Nat} {W W' : World} {v : Value} {m : Mo} (h : ModA N W v m) (hg : W.grownBy W' none) : ModA N W' v m := h.keptS (KeptS.none_ hg)
end
end Go.Proofs.YtohhojbeclbedaaGreatDoor

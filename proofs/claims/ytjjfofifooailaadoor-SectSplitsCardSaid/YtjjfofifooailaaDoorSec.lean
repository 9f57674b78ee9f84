/- Sections: what is split, what is joined, and that they belong together. No program. -/
import Derived.Test.YtjjfofifooailaaDoorNum
namespace Go.Proofs.YtjjfofifooailaaDoor

/-- The head's bytes. -/
def hd5 : List UInt8 := [67, 76, 81, 89, 1]
/-- A section's bytes; a module's. -/
def sec (k : Nat) (t : List UInt8) : List UInt8 := UInt8.ofNat k :: (sev t.length ++ t)
def joined (t1 t2 t3 : List UInt8) : List UInt8 := hd5 ++ (sec 1 t1 ++ (sec 2 t2 ++ sec 3 t3))
/-- n bytes from p on. -/
def cut (b : List UInt8) (p n : Nat) : List UInt8 := (b.drop p).take n

/-- Section k stands at a: j bytes tell that its text has n bytes, from p on. -/
structure SecOk (b : List UInt8) (k a j p n : Nat) : Prop where
  id : b[a]? = some (UInt8.ofNat k)
  taken : Taken (b.drop (a + 1)) j
  good : ¬ Bad ((b.drop (a + 1)).take j)
  is : num ((b.drop (a + 1)).take j) = n
  at_ : p = a + 1 + j
  small : n ≤ 65536
  fits : p + n ≤ b.length
inductive SecFault (b : List UInt8) (k a : Nat) : Int → Int → Prop
  | lacks : a = b.length → SecFault b k a 3 (a : Int)
  | other (u : UInt8) : b[a]? = some u → u ≠ UInt8.ofNat k → SecFault b k a 7 (a : Int)
  | ends : b[a]? = some (UInt8.ofNat k) → Short (b.drop (a + 1)) → SecFault b k a 3 (b.length : Int)
  | wrong (j : Nat) : b[a]? = some (UInt8.ofNat k) → Taken (b.drop (a + 1)) j → Bad ((b.drop (a + 1)).take j) → SecFault b k a 5 ((a + 1 : Nat) : Int)
  | long (j n : Nat) : b[a]? = some (UInt8.ofNat k) → Taken (b.drop (a + 1)) j → ¬ Bad ((b.drop (a + 1)).take j) → num ((b.drop (a + 1)).take j) = n → 65536 < n → SecFault b k a 4 ((a + 1 : Nat) : Int)
  | short (j n : Nat) : b[a]? = some (UInt8.ofNat k) → Taken (b.drop (a + 1)) j → ¬ Bad ((b.drop (a + 1)).take j) → num ((b.drop (a + 1)).take j) = n → n ≤ 65536 → b.length < a + 1 + j + n → SecFault b k a 3 ((a + 1 + j : Nat) : Int)
theorem sec_or (b : List UInt8) (k a : Nat) (ha : a ≤ b.length) : (∃ c p, SecFault b k a c p) ∨ (∃ j p n, SecOk b k a j p n) := by
  by_cases h0 : a = b.length
  · exact .inl ⟨_, _, .lacks h0⟩
  have hlt : a < b.length := by omega
  have hu : b[a]? = some b[a] := List.getElem?_eq_getElem hlt
  by_cases h1 : b[a] = UInt8.ofNat k
  · rw [h1] at hu
    rcases taken_or (b.drop (a + 1)) with hs | ⟨j, hj⟩
    · exact .inl ⟨_, _, .ends hu hs⟩
    · by_cases hb : Bad ((b.drop (a + 1)).take j)
      · exact .inl ⟨_, _, .wrong j hu hj hb⟩
      · by_cases hn : 65536 < num ((b.drop (a + 1)).take j)
        · exact .inl ⟨_, _, .long j _ hu hj hb rfl hn⟩
        · by_cases hl : b.length < a + 1 + j + num ((b.drop (a + 1)).take j)
          · exact .inl ⟨_, _, .short j _ hu hj hb rfl (by omega) hl⟩
          · exact .inr ⟨j, _, _, hu, hj, hb, rfl, rfl, by omega, by omega⟩
  · exact .inl ⟨_, _, .other _ hu h1⟩

/-- Up to i the head stands there; at i it does not. -/
structure HeadFault (b : List UInt8) (i : Nat) : Prop where
  lt : i < 5
  ahead : ∀ j, j < i → b[j]? = hd5[j]?
  here : b[i]? ≠ hd5[i]?
def HeadOk (b : List UInt8) : Prop := ∀ j, j < 5 → b[j]? = hd5[j]?
theorem head_or (b : List UInt8) : (∃ i, HeadFault b i) ∨ HeadOk b := by
  have H : ∀ i, i ≤ 5 → (∃ i, HeadFault b i) ∨ (∀ j, j < i → b[j]? = hd5[j]?) := by
    intro i
    induction i with
    | zero => intro _; exact .inr (fun j hj => by omega)
    | succ i ih =>
      intro hi
      rcases ih (by omega) with h | h
      · exact .inl h
      · by_cases he : b[i]? = hd5[i]?
        · exact .inr (fun j hj => by
            by_cases hji : j = i
            · rw [hji]; exact he
            · exact h j (by omega))
        · exact .inl ⟨i, by omega, h, he⟩
  exact H 5 (Nat.le_refl _)
theorem head_len {b : List UInt8} (h : HeadOk b) : 5 ≤ b.length := by
  have h4 := h 4 (by omega)
  have : b[4]? = some 1 := h4
  have := (List.getElem?_eq_some_iff.1 this).1
  omega

/-- Where the three texts stand. -/
structure Parts where
  j1 : Nat
  p1 : Nat
  n1 : Nat
  j2 : Nat
  p2 : Nat
  n2 : Nat
  j3 : Nat
  p3 : Nat
  n3 : Nat
structure SplitOk (b : List UInt8) (x : Parts) : Prop where
  head : HeadOk b
  s1 : SecOk b 1 5 x.j1 x.p1 x.n1
  s2 : SecOk b 2 (x.p1 + x.n1) x.j2 x.p2 x.n2
  s3 : SecOk b 3 (x.p2 + x.n2) x.j3 x.p3 x.n3
  end_ : x.p3 + x.n3 = b.length
inductive SplitFault (b : List UInt8) : Int → Int → Prop
  | head (i : Nat) : HeadFault b i → SplitFault b 6 (i : Int)
  | sec1 (c p : Int) : HeadOk b → SecFault b 1 5 c p → SplitFault b c p
  | sec2 (j1 p1 n1 : Nat) (c p : Int) : HeadOk b → SecOk b 1 5 j1 p1 n1 → SecFault b 2 (p1 + n1) c p → SplitFault b c p
  | sec3 (j1 p1 n1 j2 p2 n2 : Nat) (c p : Int) : HeadOk b → SecOk b 1 5 j1 p1 n1 → SecOk b 2 (p1 + n1) j2 p2 n2 → SecFault b 3 (p2 + n2) c p → SplitFault b c p
  | more (x : Parts) : HeadOk b → SecOk b 1 5 x.j1 x.p1 x.n1 → SecOk b 2 (x.p1 + x.n1) x.j2 x.p2 x.n2 → SecOk b 3 (x.p2 + x.n2) x.j3 x.p3 x.n3 → x.p3 + x.n3 < b.length → SplitFault b 4 ((x.p3 + x.n3 : Nat) : Int)
theorem split_or (b : List UInt8) : (∃ c p, SplitFault b c p) ∨ (∃ x, SplitOk b x) := by
  rcases head_or b with ⟨i, hi⟩ | hh
  · exact .inl ⟨_, _, .head i hi⟩
  rcases sec_or b 1 5 (head_len hh) with ⟨c, p, h1⟩ | ⟨j1, p1, n1, h1⟩
  · exact .inl ⟨_, _, .sec1 c p hh h1⟩
  rcases sec_or b 2 (p1 + n1) h1.fits with ⟨c, p, h2⟩ | ⟨j2, p2, n2, h2⟩
  · exact .inl ⟨_, _, .sec2 j1 p1 n1 c p hh h1 h2⟩
  rcases sec_or b 3 (p2 + n2) h2.fits with ⟨c, p, h3⟩ | ⟨j3, p3, n3, h3⟩
  · exact .inl ⟨_, _, .sec3 j1 p1 n1 j2 p2 n2 c p hh h1 h2 h3⟩
  by_cases he : p3 + n3 = b.length
  · exact .inr ⟨⟨j1, p1, n1, j2, p2, n2, j3, p3, n3⟩, hh, h1, h2, h3, he⟩
  · exact .inl ⟨_, _, .more ⟨j1, p1, n1, j2, p2, n2, j3, p3, n3⟩ hh h1 h2 h3 (by have := h3.fits; show p3 + n3 < b.length; omega)⟩
theorem split_code {b : List UInt8} {c p : Int} (h : SplitFault b c p) : (c == 0) = false := by
  cases h with
  | head => rfl
  | sec1 _ _ _ h => cases h <;> rfl
  | sec2 _ _ _ _ _ _ _ h => cases h <;> rfl
  | sec3 _ _ _ _ _ _ _ _ _ _ _ h => cases h <;> rfl
  | more => rfl

/-- From section k + 1 on, which stands at a, what is wrong first. -/
inductive From (b : List UInt8) : Nat → Nat → Int → Int → Prop
  | here (k a : Nat) (c p : Int) : k < 3 → SecFault b (k + 1) a c p → From b k a c p
  | next (k a j p n : Nat) (c x : Int) : k < 3 → SecOk b (k + 1) a j p n → From b (k + 1) (p + n) c x → From b k a c x
  | more (a : Nat) : a < b.length → From b 3 a 4 (a : Int)
theorem from_of {b : List UInt8} {c p : Int} (h : SplitFault b c p) (hh : HeadOk b) : From b 0 5 c p := by
  cases h with
  | head i hi => exact absurd (hh i hi.lt) hi.here
  | sec1 _ _ _ h1 => exact .here 0 5 _ _ (by omega) h1
  | sec2 j1 p1 n1 _ _ _ h1 h2 => exact .next 0 5 j1 p1 n1 _ _ (by omega) h1 (.here 1 _ _ _ (by omega) h2)
  | sec3 j1 p1 n1 j2 p2 n2 _ _ _ h1 h2 h3 => exact .next 0 5 j1 p1 n1 _ _ (by omega) h1 (.next 1 _ j2 p2 n2 _ _ (by omega) h2 (.here 2 _ _ _ (by omega) h3))
  | more x _ h1 h2 h3 h4 => exact .next 0 5 _ _ _ _ _ (by omega) h1 (.next 1 _ _ _ _ _ _ (by omega) h2 (.next 2 _ _ _ _ _ _ (by omega) h3 (.more _ h4)))

/-! ### What is split is joined so -/
theorem drop_cut (b : List UInt8) (p n : Nat) : b.drop p = cut b p n ++ b.drop (p + n) := by
  unfold cut
  rw [← List.drop_drop, List.take_append_drop]
theorem sec_bytes {b : List UInt8} {k a j p n : Nat} (h : SecOk b k a j p n) : b.drop a = sec k (cut b p n) ++ b.drop (p + n) := by
  have hlt : a < b.length := (List.getElem?_eq_some_iff.1 h.id).1
  have hid : b[a] = UInt8.ofNat k := (List.getElem?_eq_some_iff.1 h.id).2
  rw [List.drop_eq_getElem_cons hlt, hid]
  have hs := (sev_of_taken h.taken h.good).1
  rw [h.is] at hs
  have hl : (cut b p n).length = n := by unfold cut; rw [List.length_take, List.length_drop]; have := h.fits; omega
  unfold sec
  rw [hl, hs, List.cons_append, List.append_assoc]
  congr 1
  rw [← drop_cut, h.at_]
  have e := (List.take_append_drop j (b.drop (a + 1))).symm
  rw [List.drop_drop] at e
  exact e
theorem head_bytes {b : List UInt8} (h : HeadOk b) : b = hd5 ++ b.drop 5 := by
  have hl := head_len h
  have : b.take 5 = hd5 := by
    apply List.ext_getElem?
    intro i
    rcases Nat.lt_or_ge i 5 with hi | hi
    · rw [List.getElem?_take_of_lt hi]; exact h i hi
    · rw [List.getElem?_eq_none (by rw [List.length_take]; omega), List.getElem?_eq_none (by simpa [hd5] using hi)]
  rw [← this, List.take_append_drop]
theorem ok_joined {b : List UInt8} {x : Parts} (h : SplitOk b x) : b = joined (cut b x.p1 x.n1) (cut b x.p2 x.n2) (cut b x.p3 x.n3) := by
  have h0 := head_bytes h.head
  have h1 := sec_bytes h.s1
  have h2 := sec_bytes h.s2
  have h3 := sec_bytes h.s3
  rw [h.end_, List.drop_length, List.append_nil] at h3
  rw [h3] at h2
  rw [h2] at h1
  rw [h1] at h0
  exact h0
theorem cut_len {b : List UInt8} {k a j p n : Nat} (h : SecOk b k a j p n) : (cut b p n).length = n := by unfold cut; rw [List.length_take, List.length_drop]; have := h.fits; omega

/-! ### What is joined is split so -/
theorem sec_len (k : Nat) (t : List UInt8) : (sec k t).length = 1 + (sev t.length).length + t.length := by unfold sec; simp; omega
theorem sec_at (pre t rest : List UInt8) (k : Nat) (ht : t.length ≤ 65536) :
    SecOk (pre ++ (sec k t ++ rest)) k pre.length (sev t.length).length (pre.length + 1 + (sev t.length).length) t.length ∧
    cut (pre ++ (sec k t ++ rest)) (pre.length + 1 + (sev t.length).length) t.length = t := by
  have hd : (pre ++ (sec k t ++ rest)).drop (pre.length + 1) = sev t.length ++ (t ++ rest) := by
    rw [← List.drop_drop, List.drop_left]
    unfold sec
    simp
  have hn : t.length < 18446744073709551616 := by omega
  refine ⟨⟨?_, ?_, ?_, ?_, rfl, ht, ?_⟩, ?_⟩
  · rw [List.getElem?_append_right (Nat.le_refl _), Nat.sub_self]; rfl
  · rw [hd]; exact taken_sev hn _
  · rw [hd, List.take_left]; exact good_sev hn
  · rw [hd, List.take_left]; exact num_sev _
  · rw [List.length_append, List.length_append, sec_len]; omega
  · unfold cut
    rw [← List.drop_drop, hd, List.drop_left, List.take_left]
/-- Where the texts stand of what is joined. -/
def partsOf (t1 t2 t3 : List UInt8) : Parts :=
  let p1 := 6 + (sev t1.length).length
  let p2 := p1 + t1.length + 1 + (sev t2.length).length
  let p3 := p2 + t2.length + 1 + (sev t3.length).length
  ⟨(sev t1.length).length, p1, t1.length, (sev t2.length).length, p2, t2.length, (sev t3.length).length, p3, t3.length⟩
theorem joined_more (t1 t2 t3 more : List UInt8) (h1 : t1.length ≤ 65536) (h2 : t2.length ≤ 65536) (h3 : t3.length ≤ 65536) :
    HeadOk (joined t1 t2 t3 ++ more) ∧
    (SecOk (joined t1 t2 t3 ++ more) 1 5 (partsOf t1 t2 t3).j1 (partsOf t1 t2 t3).p1 (partsOf t1 t2 t3).n1 ∧ cut (joined t1 t2 t3 ++ more) (partsOf t1 t2 t3).p1 (partsOf t1 t2 t3).n1 = t1) ∧
    (SecOk (joined t1 t2 t3 ++ more) 2 ((partsOf t1 t2 t3).p1 + (partsOf t1 t2 t3).n1) (partsOf t1 t2 t3).j2 (partsOf t1 t2 t3).p2 (partsOf t1 t2 t3).n2 ∧ cut (joined t1 t2 t3 ++ more) (partsOf t1 t2 t3).p2 (partsOf t1 t2 t3).n2 = t2) ∧
    (SecOk (joined t1 t2 t3 ++ more) 3 ((partsOf t1 t2 t3).p2 + (partsOf t1 t2 t3).n2) (partsOf t1 t2 t3).j3 (partsOf t1 t2 t3).p3 (partsOf t1 t2 t3).n3 ∧ cut (joined t1 t2 t3 ++ more) (partsOf t1 t2 t3).p3 (partsOf t1 t2 t3).n3 = t3) ∧
    (partsOf t1 t2 t3).p3 + (partsOf t1 t2 t3).n3 = (joined t1 t2 t3).length := by
  have e1 : joined t1 t2 t3 ++ more = hd5 ++ (sec 1 t1 ++ (sec 2 t2 ++ (sec 3 t3 ++ more))) := by simp [joined]
  have e2 : joined t1 t2 t3 ++ more = (hd5 ++ sec 1 t1) ++ (sec 2 t2 ++ (sec 3 t3 ++ more)) := by simp [joined]
  have e3 : joined t1 t2 t3 ++ more = (hd5 ++ (sec 1 t1 ++ sec 2 t2)) ++ (sec 3 t3 ++ more) := by simp [joined]
  have l1 : (hd5 ++ sec 1 t1).length = 6 + (sev t1.length).length + t1.length := by rw [List.length_append, sec_len]; simp [hd5]; omega
  have l2 : (hd5 ++ (sec 1 t1 ++ sec 2 t2)).length = 6 + (sev t1.length).length + t1.length + 1 + (sev t2.length).length + t2.length := by
    rw [List.length_append, List.length_append, sec_len, sec_len]; simp [hd5]; omega
  have s1 := sec_at hd5 t1 (sec 2 t2 ++ (sec 3 t3 ++ more)) 1 h1
  have s2 := sec_at (hd5 ++ sec 1 t1) t2 (sec 3 t3 ++ more) 2 h2
  have s3 := sec_at (hd5 ++ (sec 1 t1 ++ sec 2 t2)) t3 more 3 h3
  rw [← e1] at s1
  rw [← e2, l1] at s2
  rw [← e3, l2] at s3
  refine ⟨fun j hj => ?_, s1, s2, s3, ?_⟩
  · rw [e1, List.getElem?_append_left (by simpa [hd5] using hj)]
  · simp only [partsOf, joined, List.length_append, sec_len]
    simp [hd5]; omega
theorem joined_ok (t1 t2 t3 : List UInt8) (h1 : t1.length ≤ 65536) (h2 : t2.length ≤ 65536) (h3 : t3.length ≤ 65536) :
    SplitOk (joined t1 t2 t3) (partsOf t1 t2 t3) ∧ cut (joined t1 t2 t3) (partsOf t1 t2 t3).p1 (partsOf t1 t2 t3).n1 = t1 ∧ cut (joined t1 t2 t3) (partsOf t1 t2 t3).p2 (partsOf t1 t2 t3).n2 = t2 ∧ cut (joined t1 t2 t3) (partsOf t1 t2 t3).p3 (partsOf t1 t2 t3).n3 = t3 := by
  have h := joined_more t1 t2 t3 [] h1 h2 h3
  rw [List.append_nil] at h
  obtain ⟨a, ⟨b1, c1⟩, ⟨b2, c2⟩, ⟨b3, c3⟩, e⟩ := h
  exact ⟨⟨a, b1, b2, b3, e⟩, c1, c2, c3⟩
/-- Bytes behind a module's are told where they stand. -/
theorem joined_long (t1 t2 t3 more : List UInt8) (h1 : t1.length ≤ 65536) (h2 : t2.length ≤ 65536) (h3 : t3.length ≤ 65536) (hm : more ≠ []) :
    SplitFault (joined t1 t2 t3 ++ more) 4 ((joined t1 t2 t3).length : Int) := by
  obtain ⟨a, ⟨b1, c1⟩, ⟨b2, c2⟩, ⟨b3, c3⟩, e⟩ := joined_more t1 t2 t3 more h1 h2 h3
  have := SplitFault.more (partsOf t1 t2 t3) a b1 b2 b3 (by rw [e, List.length_append]; have := List.length_pos_iff.2 hm; omega)
  rw [e] at this
  exact this

/-! ### A beginning is no module's bytes -/
theorem taken_pre {l m : List UInt8} {j i : Nat} (h : Taken (l.take m.length) j) (hm : l.take m.length = m) (hi : Taken l i) : i = j := by
  rw [hm] at h
  have hl : ∀ q, q < m.length → l[q]? = m[q]? := fun q hq => by
    have h1 := List.getElem?_take_of_lt (l := l) hq
    rw [hm] at h1
    exact h1.symm
  have hj := h.len
  rcases Nat.lt_trichotomy i j with hlt | he | hgt
  · -- l's byte at i - 1 is the last one of i, and not of j
    have hp := hi.pos
    obtain ⟨u, hu⟩ : ∃ u, m[i - 1]? = some u := ⟨m[i - 1]'(by omega), List.getElem?_eq_getElem (by omega)⟩
    have h1 := h.high (i - 1) u (by omega) hu
    have h2 := hi.last u (by rw [hl (i - 1) (by omega)]; exact hu)
    have := h.le
    omega
  · exact he
  · have hp := h.pos
    obtain ⟨u, hu⟩ : ∃ u, m[j - 1]? = some u := ⟨m[j - 1]'(by omega), List.getElem?_eq_getElem (by omega)⟩
    have h1 := hi.high (j - 1) u (by omega) (by rw [hl (j - 1) (by omega)]; exact hu)
    have h2 := h.last u hu
    have := hi.le
    omega
theorem sec_pre {b : List UInt8} {c k a j p n j' p' n' : Nat} (hc : c ≤ b.length) (h : SecOk (b.take c) k a j p n) (h' : SecOk b k a j' p' n') : j = j' ∧ p = p' ∧ n = n' := by
  have hd : (b.take c).drop (a + 1) = (b.drop (a + 1)).take (c - (a + 1)) := List.drop_take ..
  have hlen : (b.take c).length = c := by rw [List.length_take]; omega
  have hfit := h.fits
  have hat := h.at_
  rw [hlen] at hfit
  have hj : j' = j := by
    refine taken_pre (l := b.drop (a + 1)) (m := (b.take c).drop (a + 1)) ?_ ?_ h'.taken
    · have : (b.drop (a + 1)).take ((b.take c).drop (a + 1)).length = (b.take c).drop (a + 1) := by rw [hd, List.length_take]; rw [List.length_drop]; rw [Nat.min_eq_left (by omega)]
      rw [this]; exact h.taken
    · rw [hd, List.length_take, List.length_drop, Nat.min_eq_left (by omega)]
  subst hj
  have ht : ((b.take c).drop (a + 1)).take j' = (b.drop (a + 1)).take j' := by
    rw [hd, List.take_take, Nat.min_eq_left (by have := h.taken.len; rw [hd, List.length_take, List.length_drop] at this; omega)]
  have hn : n = n' := by rw [← h.is, ← h'.is, ht]
  exact ⟨rfl, by rw [h.at_, h'.at_], hn⟩
theorem no_beginning (t1 t2 t3 : List UInt8) (h1 : t1.length ≤ 65536) (h2 : t2.length ≤ 65536) (h3 : t3.length ≤ 65536) (c : Nat) (hc : c < (joined t1 t2 t3).length) : ∃ x y, SplitFault ((joined t1 t2 t3).take c) x y := by
  rcases split_or ((joined t1 t2 t3).take c) with h | ⟨x, h⟩
  · exact h
  · exfalso
    obtain ⟨H, _, _, _⟩ := joined_ok t1 t2 t3 h1 h2 h3
    have hle : c ≤ (joined t1 t2 t3).length := by omega
    obtain ⟨_, a2, a3⟩ := sec_pre hle h.s1 H.s1
    have s2 := h.s2
    rw [a2, a3] at s2
    obtain ⟨_, b2, b3⟩ := sec_pre hle s2 H.s2
    have s3 := h.s3
    rw [b2, b3] at s3
    obtain ⟨_, c2, c3⟩ := sec_pre hle s3 H.s3
    have e := h.end_
    rw [c2, c3, H.end_, List.length_take] at e
    omega
end Go.Proofs.YtjjfofifooailaaDoor

/- Sections: what is split is split in one way; and a fault is one alone. No program. -/
import Derived.Test.YtjjfofifooailaaDoorSec
namespace Go.Proofs.YtjjfofifooailaaDoor

theorem taken_one {l : List UInt8} {i j : Nat} (h : Taken l i) (k : Taken l j) : i = j := by
  refine taken_pre (l := l) (m := l) ?_ (List.take_length) h
  rw [List.take_length]; exact k
theorem short_taken {l : List UInt8} {j : Nat} (h : Short l) (k : Taken l j) : False := by
  have h1 := k.pos
  have h2 := k.len
  have h3 := h.1
  have hlt : j - 1 < l.length := by omega
  have h4 := h.2 (j - 1) _ (List.getElem?_eq_getElem hlt)
  have h5 := k.last _ (List.getElem?_eq_getElem hlt)
  omega
section
variable {b : List UInt8} {k a j p n j' p' n' : Nat} {c x c' x' : Int}
theorem sec_one (h : SecOk b k a j p n) (h' : SecOk b k a j' p' n') : j = j' ∧ p = p' ∧ n = n' := by
  refine sec_pre (b := b) (c := b.length) (Nat.le_refl _) ?_ h'
  rw [List.take_length]; exact h
theorem sec_not (h : SecFault b k a c x) (h' : SecOk b k a j p n) : False := by
  have hid := h'.id
  cases h with
  | lacks h1 => rw [h1, List.getElem?_eq_none (Nat.le_refl _)] at hid; cases hid
  | other u h1 h2 => rw [h1] at hid; injection hid with e; exact h2 e
  | ends h1 h2 => exact short_taken h2 h'.taken
  | wrong i h1 h2 h3 => rw [taken_one h2 h'.taken] at h3; exact h'.good h3
  | long i m h1 h2 h3 h4 h5 => rw [taken_one h2 h'.taken, h'.is] at h4; have := h'.small; omega
  | short i m h1 h2 h3 h4 h5 h6 =>
    have hi := taken_one h2 h'.taken
    rw [hi, h'.is] at h4
    have := h'.fits
    have := h'.at_
    omega
theorem secf_one (h : SecFault b k a c x) (h' : SecFault b k a c' x') : c = c' ∧ x = x' := by
  have none_ : a = b.length → ∀ u, b[a]? = some u → False := fun e u hu => by rw [e, List.getElem?_eq_none (Nat.le_refl _)] at hu; cases hu
  cases h with
  | lacks h1 =>
    cases h' with
    | lacks _ => exact ⟨rfl, rfl⟩
    | other _ k1 _ => exact (none_ h1 _ k1).elim
    | ends k1 _ => exact (none_ h1 _ k1).elim
    | wrong _ k1 _ _ => exact (none_ h1 _ k1).elim
    | long _ _ k1 _ _ _ _ => exact (none_ h1 _ k1).elim
    | short _ _ k1 _ _ _ _ _ => exact (none_ h1 _ k1).elim
  | other u h1 h2 =>
    have ne : b[a]? = some (UInt8.ofNat k) → False := fun e => by rw [h1] at e; injection e with e; exact h2 e
    cases h' with
    | lacks k1 => exact (none_ k1 _ h1).elim
    | other _ _ _ => exact ⟨rfl, rfl⟩
    | ends k1 _ => exact (ne k1).elim
    | wrong _ k1 _ _ => exact (ne k1).elim
    | long _ _ k1 _ _ _ _ => exact (ne k1).elim
    | short _ _ k1 _ _ _ _ _ => exact (ne k1).elim
  | ends h1 h2 =>
    cases h' with
    | lacks k1 => exact (none_ k1 _ h1).elim
    | other _ k1 k2 => rw [h1] at k1; injection k1 with e; exact (k2 e.symm).elim
    | ends _ _ => exact ⟨rfl, rfl⟩
    | wrong _ _ k2 _ => exact (short_taken h2 k2).elim
    | long _ _ _ k2 _ _ _ => exact (short_taken h2 k2).elim
    | short _ _ _ k2 _ _ _ _ => exact (short_taken h2 k2).elim
  | wrong i h1 h2 h3 =>
    cases h' with
    | lacks k1 => exact (none_ k1 _ h1).elim
    | other _ k1 k2 => rw [h1] at k1; injection k1 with e; exact (k2 e.symm).elim
    | ends _ k2 => exact (short_taken k2 h2).elim
    | wrong _ _ _ _ => exact ⟨rfl, rfl⟩
    | long _ _ _ k2 k3 _ _ => rw [taken_one h2 k2] at h3; exact (k3 h3).elim
    | short _ _ _ k2 k3 _ _ _ => rw [taken_one h2 k2] at h3; exact (k3 h3).elim
  | long i m h1 h2 h3 h4 h5 =>
    cases h' with
    | lacks k1 => exact (none_ k1 _ h1).elim
    | other _ k1 k2 => rw [h1] at k1; injection k1 with e; exact (k2 e.symm).elim
    | ends _ k2 => exact (short_taken k2 h2).elim
    | wrong _ _ k2 k3 => rw [taken_one k2 h2] at k3; exact (h3 k3).elim
    | long _ _ _ _ _ _ _ => exact ⟨rfl, rfl⟩
    | short _ _ _ k2 _ k4 k5 _ => rw [taken_one k2 h2, h4] at k4; omega
  | short i m h1 h2 h3 h4 h5 h6 =>
    cases h' with
    | lacks k1 => exact (none_ k1 _ h1).elim
    | other _ k1 k2 => rw [h1] at k1; injection k1 with e; exact (k2 e.symm).elim
    | ends _ k2 => exact (short_taken k2 h2).elim
    | wrong _ _ k2 k3 => rw [taken_one k2 h2] at k3; exact (h3 k3).elim
    | long _ _ _ k2 _ k4 k5 => rw [taken_one k2 h2, h4] at k4; omega
    | short i' m' _ k2 _ k4 _ _ => rw [taken_one h2 k2]; exact ⟨rfl, rfl⟩
end
theorem head_not {b : List UInt8} {i : Nat} (h : HeadFault b i) (h' : HeadOk b) : False := h.here (h' i h.lt)
theorem head_one {b : List UInt8} {i j : Nat} (h : HeadFault b i) (h' : HeadFault b j) : i = j := by
  rcases Nat.lt_trichotomy i j with hlt | e | hgt
  · exact absurd (h'.ahead i hlt) h.here
  · exact e
  · exact absurd (h.ahead j hgt) h'.here
theorem split_not {b : List UInt8} {c y : Int} {x : Parts} (h : SplitFault b c y) (h' : SplitOk b x) : False := by
  cases h with
  | head i hi => exact head_not hi h'.head
  | sec1 _ _ _ h1 => exact sec_not h1 h'.s1
  | sec2 j1 p1 n1 _ _ _ k1 h2 =>
    obtain ⟨_, e2, e3⟩ := sec_one k1 h'.s1
    rw [e2, e3] at h2
    exact sec_not h2 h'.s2
  | sec3 j1 p1 n1 j2 p2 n2 _ _ _ k1 k2 h3 =>
    obtain ⟨_, e2, e3⟩ := sec_one k1 h'.s1
    rw [e2, e3] at k2
    obtain ⟨_, f2, f3⟩ := sec_one k2 h'.s2
    rw [f2, f3] at h3
    exact sec_not h3 h'.s3
  | more z _ k1 k2 k3 k4 =>
    obtain ⟨_, e2, e3⟩ := sec_one k1 h'.s1
    rw [e2, e3] at k2
    obtain ⟨_, f2, f3⟩ := sec_one k2 h'.s2
    rw [f2, f3] at k3
    obtain ⟨_, g2, g3⟩ := sec_one k3 h'.s3
    have := h'.end_
    omega
theorem split_one {b : List UInt8} {x y : Parts} (h : SplitOk b x) (h' : SplitOk b y) : x = y := by
  obtain ⟨e1, e2, e3⟩ := sec_one h.s1 h'.s1
  have k2 := h.s2
  rw [e2, e3] at k2
  obtain ⟨f1, f2, f3⟩ := sec_one k2 h'.s2
  have k3 := h.s3
  rw [f2, f3] at k3
  obtain ⟨g1, g2, g3⟩ := sec_one k3 h'.s3
  cases x; cases y
  simp_all
/-- From section k + 1 on a fault is one alone. -/
theorem from_one {b : List UInt8} {k a : Nat} {c y c' y' : Int} (h : From b k a c y) (h' : From b k a c' y') : c = c' ∧ y = y' := by
  induction h with
  | here k a c p hk hf =>
    cases h' with
    | here _ _ _ _ _ hf' => exact secf_one hf hf'
    | next _ _ _ _ _ _ _ _ ho _ => exact (sec_not hf ho).elim
    | more _ _ => omega
  | next k a j p n c x hk ho hf ih =>
    cases h' with
    | here _ _ _ _ _ hf' => exact (sec_not hf' ho).elim
    | next _ _ _ _ _ _ _ _ ho' hf' =>
      obtain ⟨_, e2, e3⟩ := sec_one ho' ho
      rw [e2, e3] at hf'
      exact ih hf'
    | more _ _ => omega
  | more a ha =>
    cases h' with
    | here _ _ _ _ hk _ => omega
    | next _ _ _ _ _ _ _ hk _ _ => omega
    | more _ _ => exact ⟨rfl, rfl⟩
theorem splitf_one {b : List UInt8} {c y c' y' : Int} (h : SplitFault b c y) (h' : SplitFault b c' y') : c = c' ∧ y = y' := by
  rcases head_or b with ⟨i, hi⟩ | hh
  · have only : ∀ {c y : Int}, SplitFault b c y → c = 6 ∧ y = (i : Int) := fun {c y} h => by
      cases h with
      | head j hj => exact ⟨rfl, by rw [head_one hj hi]⟩
      | sec1 _ _ hh _ => exact (head_not hi hh).elim
      | sec2 _ _ _ _ _ hh _ _ => exact (head_not hi hh).elim
      | sec3 _ _ _ _ _ _ _ _ hh _ _ _ => exact (head_not hi hh).elim
      | more _ hh _ _ _ _ => exact (head_not hi hh).elim
    obtain ⟨e1, e2⟩ := only h
    obtain ⟨f1, f2⟩ := only h'
    exact ⟨e1.trans f1.symm, e2.trans f2.symm⟩
  · exact from_one (from_of h hh) (from_of h' hh)
end Go.Proofs.YtjjfofifooailaaDoor

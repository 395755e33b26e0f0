/-
  So many times, one behind the other, and what is taken wherever it stands; no conditions.
-/
import Derived.Test.YtjlihidmohokhaaNFact
namespace Go.Proofs.Ytjlihidmohokhaa.Gl

theorem cat_times (s : Tx) (x : Nd) : ∀ n i j, catK s (List.replicate n x) i j ↔ iterR (tk s x) n i j := by
  intro n
  induction n with
  | zero => intro i j; rw [List.replicate_zero, catK]; rfl
  | succ n ih =>
    intro i j
    rw [List.replicate_succ, catK]
    constructor
    · rintro ⟨m, h1, h2⟩; exact ⟨m, h1, (ih m j).1 h2⟩
    · rintro ⟨m, h1, h2⟩; exact ⟨m, h1, (ih m j).2 h2⟩
theorem tkT (s : Tx) (f : Bs) (d : Nd) (lo hi : Int) (i j : Nat) : tk s (.mk 5 f [d] lo hi) i j ↔ ∃ n : Nat, lo ≤ n ∧ (hi < 0 ∨ (n : Int) ≤ hi) ∧ iterR (tk s d) n i j := by
  have hR : (fun a b => altK s [d] a b) = tk s d := by
    funext a b
    apply propext
    rw [altK, altK]
    simp
  rw [tk, hR]
  simp
theorem times_is (s : Tx) (x : Nd) (n : Nat) : wholeK s (.mk 5 none_ [x] n n) ↔ wholeK s (.mk 3 none_ (List.replicate n x) 0 0) := by
  unfold wholeK
  rw [tkT, tk]
  simp only [cat_times]
  constructor
  · rintro ⟨m, h1, h2, h3⟩
    obtain rfl : m = n := by omega
    simp
    exact h3
  · intro h
    simp at h
    exact ⟨n, by omega, Or.inr (by omega), h⟩
theorem star_is (s : Tx) (x : Nd) : wholeK s (.mk 5 none_ [x] 0 (-1)) ↔ wholeK s (.mk 4 none_ [.mk 1 none_ [] 0 0, .mk 3 none_ [x, .mk 5 none_ [x] 0 (-1)] 0 0] 0 0) := by
  unfold wholeK
  rw [tk.eq_def s (.mk 4 none_ _ 0 0)]
  simp only [altK, or_false]
  rw [tk.eq_def s (.mk 1 none_ [] 0 0), tk.eq_def s (.mk 3 none_ _ 0 0)]
  simp only [catK]
  simp
  rw [tkT]
  constructor
  · rintro ⟨n, _, _, h⟩
    cases n with
    | zero => exact Or.inl h
    | succ n =>
      obtain ⟨m, h1, h2⟩ := h
      exact Or.inr ⟨m, h1, (tkT s none_ x 0 (-1) m s.length).2 ⟨n, by omega, Or.inl (by omega), h2⟩⟩
  · rintro (h | ⟨m, h1, h2⟩)
    · exact ⟨0, by omega, Or.inl (by omega), h⟩
    · obtain ⟨n, _, _, h3⟩ := (tkT s none_ x 0 (-1) m s.length).1 h2
      exact ⟨n + 1, by omega, Or.inl (by omega), m, h1, h3⟩
mutual
/-- does a node ask for the beginning, or the end -/
def endsN : Nd → Bool
  | .mk k _ kids _ _ => k == 6 || k == 7 || endsL kids
def endsL : List Nd → Bool
  | [] => false
  | d :: l => endsN d || endsL l
end
/-- a text lies within another one -/
def Win (t s : Tx) (o : Nat) : Prop := o + t.length ≤ s.length ∧ ∀ p, p < t.length → t.getD p 0 = s.getD (o + p) 0
theorem iter_shift {R R' : Nat → Nat → Prop} {L o S : Nat} (hS : o + L ≤ S) (hb : ∀ i j, R i j → i ≤ L → i ≤ j ∧ j ≤ L) (hb' : ∀ i j, R' i j → i ≤ S → i ≤ j ∧ j ≤ S) (h : ∀ a b, a ≤ b → b ≤ L → (R a b ↔ R' (o + a) (o + b))) : ∀ n a b, a ≤ b → b ≤ L → (iterR R n a b ↔ iterR R' n (o + a) (o + b)) := by
  intro n
  induction n with
  | zero => intro a b _ _; constructor
            · intro e; show o + a = o + b; rw [show a = b from e]
            · intro e; have e2 : o + a = o + b := e; show a = b; omega
  | succ n ih =>
    intro a b hab hbL
    constructor
    · rintro ⟨m, h1, h2⟩
      have h3 := hb a m h1 (by omega)
      have h4 := iterR_between hb n m b h2 h3.2
      exact ⟨o + m, (h a m h3.1 (by omega)).1 h1, (ih m b h4.1 hbL).1 h2⟩
    · rintro ⟨m', h1, h2⟩
      have h3 := hb' (o + a) m' h1 (by omega)
      have h4 := iterR_between hb' n m' (o + b) h2 h3.2
      obtain ⟨m, rfl⟩ : ∃ m, m' = o + m := ⟨m' - o, by omega⟩
      exact ⟨m, (h a m (by omega) (by omega)).2 h1, (ih m b (by omega) hbL).2 h2⟩
mutual
theorem tk_shift {t s : Tx} {o : Nat} (hw : Win t s o) : ∀ (x : Nd), endsN x = false → ∀ a b, a ≤ b → b ≤ t.length → (tk t x a b ↔ tk s x (o + a) (o + b))
  | .mk k f kids lo hi, he, a, b, hab, hb => by
    rw [endsN] at he
    simp only [Bool.or_eq_false_iff, beq_eq_false_iff_ne] at he
    have hcat := catK_shift hw kids he.2 a b hab hb
    have halt := altK_shift hw kids he.2
    have hit := iter_shift (R := fun a b => altK t kids a b) (R' := fun a b => altK s kids a b) (L := t.length) (o := o) (S := s.length) hw.1 (fun i j => altK_between t kids i j) (fun i j => altK_between s kids i j) halt
    have hlen := hw.1
    rw [tk, tk, hcat, halt a b hab hb]
    constructor
    · rintro (⟨h, e⟩ | ⟨h, h1, h2, h3⟩ | ⟨h, h1⟩ | ⟨h, h1⟩ | ⟨h, n, h1, h2, h3⟩ | ⟨h, _⟩ | ⟨h, _⟩)
      · exact Or.inl ⟨h, by omega⟩
      · refine Or.inr (Or.inl ⟨h, by omega, ?_, by omega⟩)
        rw [← hw.2 a h1]; exact h2
      · exact Or.inr (Or.inr (Or.inl ⟨h, h1⟩))
      · exact Or.inr (Or.inr (Or.inr (Or.inl ⟨h, h1⟩)))
      · exact Or.inr (Or.inr (Or.inr (Or.inr (Or.inl ⟨h, n, h1, h2, (hit n a b hab hb).1 h3⟩))))
      · exact absurd h he.1.1
      · exact absurd h he.1.2
    · rintro (⟨h, e⟩ | ⟨h, h1, h2, h3⟩ | ⟨h, h1⟩ | ⟨h, h1⟩ | ⟨h, n, h1, h2, h3⟩ | ⟨h, _⟩ | ⟨h, _⟩)
      · exact Or.inl ⟨h, by omega⟩
      · have ha : a < t.length := by omega
        refine Or.inr (Or.inl ⟨h, ha, ?_, by omega⟩)
        rw [hw.2 a ha]; exact h2
      · exact Or.inr (Or.inr (Or.inl ⟨h, h1⟩))
      · exact Or.inr (Or.inr (Or.inr (Or.inl ⟨h, h1⟩)))
      · exact Or.inr (Or.inr (Or.inr (Or.inr (Or.inl ⟨h, n, h1, h2, (hit n a b hab hb).2 h3⟩))))
      · exact absurd h he.1.1
      · exact absurd h he.1.2
theorem catK_shift {t s : Tx} {o : Nat} (hw : Win t s o) : ∀ (l : List Nd), endsL l = false → ∀ a b, a ≤ b → b ≤ t.length → (catK t l a b ↔ catK s l (o + a) (o + b))
  | [], _, a, b, _, _ => by rw [catK, catK]; omega
  | d :: l, he, a, b, hab, hb => by
    rw [endsL] at he
    simp only [Bool.or_eq_false_iff] at he
    have hlen := hw.1
    rw [catK, catK]
    constructor
    · rintro ⟨m, h1, h2⟩
      have h3 := tk_between t d a m h1 (by omega)
      have h4 := catK_between t l m b h2 h3.2
      exact ⟨o + m, (tk_shift hw d he.1 a m h3.1 h3.2).1 h1, (catK_shift hw l he.2 m b h4.1 hb).1 h2⟩
    · rintro ⟨m', h1, h2⟩
      have h3 := tk_between s d (o + a) m' h1 (by omega)
      have h4 := catK_between s l m' (o + b) h2 h3.2
      obtain ⟨m, rfl⟩ : ∃ m, m' = o + m := ⟨m' - o, by omega⟩
      exact ⟨m, (tk_shift hw d he.1 a m (by omega) (by omega)).2 h1, (catK_shift hw l he.2 m b (by omega) hb).2 h2⟩
theorem altK_shift {t s : Tx} {o : Nat} (hw : Win t s o) : ∀ (l : List Nd), endsL l = false → ∀ a b, a ≤ b → b ≤ t.length → (altK t l a b ↔ altK s l (o + a) (o + b))
  | [], _, a, b, _, _ => by rw [altK, altK]
  | d :: l, he, a, b, hab, hb => by
    rw [endsL] at he
    simp only [Bool.or_eq_false_iff] at he
    rw [altK, altK, tk_shift hw d he.1 a b hab hb, altK_shift hw l he.2 a b hab hb]
end
theorem win_take (s : Tx) (i : Nat) (hi : i ≤ s.length) : Win (s.take i) s 0 := by
  refine ⟨by rw [List.length_take]; omega, fun p hp => ?_⟩
  rw [List.length_take] at hp
  rw [Nat.zero_add, List.getD_eq_getElem?_getD, List.getD_eq_getElem?_getD, List.getElem?_take_of_lt (by omega)]
theorem win_drop (s : Tx) (i : Nat) (hi : i ≤ s.length) : Win (s.drop i) s i := by
  refine ⟨by rw [List.length_drop]; omega, fun p hp => ?_⟩
  rw [List.getD_eq_getElem?_getD, List.getD_eq_getElem?_getD, List.getElem?_drop]
/-- both, one behind the other: a text that is cut somewhere -/
theorem cat_two (s : Tx) (x y : Nd) (hx : endsN x = false) (hy : endsN y = false) : wholeK s (.mk 3 none_ [x, y] 0 0) ↔ ∃ i, i ≤ s.length ∧ wholeK (s.take i) x ∧ wholeK (s.drop i) y := by
  unfold wholeK
  rw [tk]
  simp [catK]
  constructor
  · rintro ⟨m, h1, h2⟩
    have h3 := tk_between s x 0 m h1 (Nat.zero_le _)
    refine ⟨m, h3.2, ?_, ?_⟩
    · have h4 := (tk_shift (win_take s m h3.2) x hx 0 m (Nat.zero_le _) (by rw [List.length_take]; omega)).2 (by rw [Nat.zero_add, Nat.zero_add]; exact h1)
      rw [Nat.min_eq_left h3.2]; exact h4
    · have h4 := (tk_shift (win_drop s m h3.2) y hy 0 (s.length - m) (Nat.zero_le _) (by rw [List.length_drop]; omega)).2 (by rw [Nat.add_zero, show m + (s.length - m) = s.length by omega]; exact h2)
      exact h4
  · rintro ⟨i, hi, h1, h2⟩
    refine ⟨i, ?_, ?_⟩
    · have h4 := (tk_shift (win_take s i hi) x hx 0 i (Nat.zero_le _) (by rw [List.length_take]; omega)).1 (by rw [Nat.min_eq_left hi] at h1; exact h1)
      rw [Nat.zero_add, Nat.zero_add] at h4; exact h4
    · have h4 := (tk_shift (win_drop s i hi) y hy 0 (s.length - i) (Nat.zero_le _) (by rw [List.length_drop]; omega)).1 h2
      rw [Nat.add_zero, show i + (s.length - i) = s.length by omega] at h4; exact h4

end Go.Proofs.Ytjlihidmohokhaa.Gl

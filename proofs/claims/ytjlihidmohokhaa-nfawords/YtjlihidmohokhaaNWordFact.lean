/-
  What a word of letters is read as, and what it takes; no conditions.
-/
import Derived.Test.YtjlihidmohokhaaNPlain
namespace Go.Proofs.Ytjlihidmohokhaa.Gl

def isLow (c : UInt8) : Bool := decide (97 ≤ c.toNat) && decide (c.toNat ≤ 122)
def lowN (c : UInt8) : Nd := setN (spn c.toNat c.toNat)
theorem low_ne {c : UInt8} (h : isLow c = true) (d : UInt8) (hd : d.toNat < 97 ∨ 122 < d.toNat) : ¬ c = d := by
  intro e
  subst e
  simp only [isLow, Bool.and_eq_true, decide_eq_true_eq] at h
  omega
theorem low_head {l : Tx} (h : l.all isLow = true) (d : UInt8) (hd : d.toNat < 97 ∨ 122 < d.toNat) (h0 : d ≠ 0) : ¬ l.getD 0 0 = d := by
  cases l with
  | nil => intro e; exact h0 e.symm
  | cons a t =>
    simp only [List.all_cons, Bool.and_eq_true] at h
    exact low_ne h.1 d hd
theorem low_ends {l : Tx} (h : l.all isLow = true) (hl : l ≠ []) : ends l = false := by
  cases l with
  | nil => exact absurd rfl hl
  | cons a t =>
    simp only [List.all_cons, Bool.and_eq_true] at h
    have h1 : ¬ a = 124 := low_ne h.1 124 (by decide)
    have h2 : ¬ a = 41 := low_ne h.1 41 (by decide)
    simp [ends, h1, h2]
theorem low_atom (g : Tx → Rs Nd) {a : UInt8} {t : Tx} (h : isLow a = true) : atomE g (a :: t) = .ok (lowN a) 1 := by
  have h1 : ¬ a = 40 := low_ne h 40 (by decide)
  have h2 : ¬ a = 91 := low_ne h 91 (by decide)
  have h3 : ¬ a = 94 := low_ne h 94 (by decide)
  have h4 : ¬ a = 36 := low_ne h 36 (by decide)
  have h5 : ¬ a = 46 := low_ne h 46 (by decide)
  have h6 : ¬ a = 92 := low_ne h 92 (by decide)
  have s1 : ¬ a = 41 := low_ne h 41 (by decide)
  have s2 : ¬ a = 42 := low_ne h 42 (by decide)
  have s3 : ¬ a = 43 := low_ne h 43 (by decide)
  have s4 : ¬ a = 63 := low_ne h 63 (by decide)
  have s5 : ¬ a = 123 := low_ne h 123 (by decide)
  have s6 : ¬ a = 124 := low_ne h 124 (by decide)
  simp [atomE, special, lowN, h1, h2, h3, h4, h5, h6, s1, s2, s3, s4, s5, s6]
theorem low_post {t : Tx} (h : t.all isLow = true) (n : Nat) (d : Nd) : postE n d t = .ok d 0 := by
  cases n with
  | zero => rfl
  | succ n =>
    rw [postE, if_neg (low_head h 42 (by decide) (by decide)), if_neg (low_head h 43 (by decide) (by decide)), if_neg (low_head h 63 (by decide) (by decide)), if_neg (low_head h 123 (by decide) (by decide))]
theorem low_pieces (g : Tx → Rs Nd) : ∀ (l : Tx), l.all isLow = true → ∀ n, l.length < n → piecesE g n l = .ok (l.map lowN) l.length := by
  intro l
  induction l with
  | nil =>
    intro _ n hn
    cases n with
    | zero => exact absurd hn (by simp)
    | succ n => simp [piecesE, ends]
  | cons a t ih =>
    intro h n hn
    cases n with
    | zero => exact absurd hn (by simp)
    | succ n =>
      have he := low_ends h (by simp)
      simp only [List.all_cons, Bool.and_eq_true] at h
      have hp : pieceE g (a :: t) = .ok (lowN a) 1 := by
        unfold pieceE
        rw [low_atom g h.1]
        simp only [List.drop_succ_cons, List.drop_zero]
        rw [low_post h.2]
        rfl
      rw [piecesE, if_neg (by rw [he]; simp), hp]
      simp only [List.drop_succ_cons, List.drop_zero]
      rw [ih h.2 n (by simp at hn; omega)]
      simp [Rs.map, Rs.far, Nat.add_comm]
/-- a word's node -/
def wordN (l : Tx) : Nd := catOf (l.map lowN)
theorem low_expr (g : Tx → Rs Nd) {l : Tx} (h : l.all isLow = true) : exprE g l = .ok (wordN l) l.length := by
  unfold exprE
  rw [branchesE]
  unfold branchE
  rw [low_pieces g l h _ (Nat.lt_succ_self _)]
  simp only [Rs.map]
  rw [if_neg (by rw [List.drop_length]; decide)]
  rfl
theorem low_sizes : ∀ (l : Tx), sizes (l.map lowN) = l.length := by
  intro l
  induction l with
  | nil => rfl
  | cons a t ih =>
    rw [List.map_cons, sizes, ih]
    unfold lowN setN
    rw [sizeN]
    simp [reps, sizes]
    omega
theorem low_withins (m : Nat) : ∀ (l : Tx), withins (l.map lowN) m = true := by
  intro l
  induction l with
  | nil => simp [withins]
  | cons a t ih =>
    rw [List.map_cons, withins, ih]
    unfold lowN setN
    rw [withinN]
    simp [aloneN, withins, noTimes]
theorem noSet_no : noSet none_ = true := by decide +kernel
theorem word_right {l : Tx} (hl : l.length ≤ 1000) : rightN (wordN l) = true := by
  unfold rightN wordN catOf
  match l with
  | [] => decide +kernel
  | [a] =>
    simp only [List.map_cons, List.map_nil, together]
    unfold lowN setN
    rw [if_neg (by simp), withinN, sizeN]
    simp [aloneN, withins, noTimes, sizes]
  | a :: b :: t =>
    have h1 := low_sizes (a :: b :: t)
    have h2 := low_withins 199 (a :: b :: t)
    simp only [List.map_cons] at h1 h2
    simp only [List.map_cons, together]
    rw [if_neg (by simp), withinN, sizeN, h1, h2]
    simp only [List.length_cons] at hl
    simp [aloneN, reps, noSet_no, noTimes]
    omega
theorem word_top {l : Tx} (h : l.all isLow = true) (hl : l.length ≤ 1000) : topE l = .ok (wordN l) l.length := by
  unfold topE
  rw [if_neg (by omega), low_expr _ h]
  simp only [Nat.lt_irrefl, if_false, word_right hl, if_true]

theorem low_tk (s : Tx) (c : UInt8) (i j : Nat) : tk s (lowN c) i j ↔ i < s.length ∧ s.getD i 0 = c ∧ j = i + 1 := by
  unfold lowN setN
  rw [tk]
  simp only [spn, Bool.and_eq_true, decide_eq_true_eq]
  constructor
  · intro h
    simp at h
    refine ⟨h.1, ?_, h.2.2⟩
    apply UInt8.toNat_inj.1
    simp
    omega
  · rintro ⟨h1, h2, h3⟩
    right; left
    refine ⟨trivial, h1, ?_, h3⟩
    rw [h2]
    omega
theorem low_cat (s : Tx) : ∀ (l : Tx) (i j : Nat), i ≤ s.length → (catK s (l.map lowN) i j ↔ j = i + l.length ∧ j ≤ s.length ∧ (s.drop i).take l.length = l) := by
  intro l
  induction l with
  | nil =>
    intro i j hi
    rw [List.map_nil, catK]
    simp
    omega
  | cons a t ih =>
    intro i j hi
    rw [List.map_cons, catK]
    constructor
    · rintro ⟨m, h1, h2⟩
      obtain ⟨h3, h4, rfl⟩ := (low_tk s a i m).1 h1
      obtain ⟨h5, h6, h7⟩ := (ih (i + 1) j (by omega)).1 h2
      refine ⟨by rw [List.length_cons]; omega, h6, ?_⟩
      rw [List.drop_eq_getElem_cons h3, List.length_cons, List.take_succ_cons, h7]
      congr 1
      rw [← h4, List.getD_eq_getElem?_getD, List.getElem?_eq_getElem h3]
      rfl
    · rintro ⟨h1, h2, h3⟩
      rw [List.length_cons] at h1
      have hlt : i < s.length := by omega
      rw [List.drop_eq_getElem_cons hlt, List.length_cons, List.take_succ_cons] at h3
      obtain ⟨h4, h5⟩ := List.cons.inj h3
      refine ⟨i + 1, (low_tk s a i (i + 1)).2 ⟨hlt, ?_, rfl⟩, (ih (i + 1) j (by omega)).2 ⟨by omega, h2, h5⟩⟩
      rw [List.getD_eq_getElem?_getD, List.getElem?_eq_getElem hlt]
      exact h4
/-- a word takes itself -/
theorem word_tk (s l : Tx) (i j : Nat) (hi : i ≤ s.length) : tk s (wordN l) i j ↔ j = i + l.length ∧ j ≤ s.length ∧ (s.drop i).take l.length = l := by
  rw [← low_cat s l i j hi]
  unfold wordN catOf
  match l with
  | [] =>
    simp only [List.map_nil, if_true]
    unfold plainN
    rw [tk, catK]
    simp
  | [a] =>
    simp only [List.map_cons, List.map_nil, together]
    rw [if_neg (by simp), catK]
    simp only [catK]
    constructor
    · intro h; exact ⟨j, h, rfl⟩
    · rintro ⟨m, h, rfl⟩; exact h
  | a :: b :: t =>
    simp only [List.map_cons, together]
    rw [if_neg (by simp), tk]
    simp
theorem word_whole (s l : Tx) : wholeK s (wordN l) ↔ s = l := by
  unfold wholeK
  rw [word_tk s l 0 s.length (Nat.zero_le _)]
  constructor
  · rintro ⟨h1, _, h3⟩
    rw [List.drop_zero, List.take_of_length_le (by omega)] at h3
    exact h3
  · rintro rfl
    exact ⟨by omega, Nat.le_refl _, by rw [List.drop_zero, List.take_of_length_le (Nat.le_refl _)]⟩
/-- does a word stand at a place before k -/
def seenTo (s l : Tx) (k : Nat) : Bool := (List.range k).any fun i => (s.drop i).take l.length == l
theorem seenTo_succ (s l : Tx) (k : Nat) : seenTo s l (k + 1) = (seenTo s l k || ((s.drop k).take l.length == l)) := by
  unfold seenTo
  rw [List.range_succ, List.any_append]
  simp
theorem word_some (s l : Tx) : someK s (wordN l) ↔ seenTo s l (s.length + 1 - l.length) = true := by
  unfold someK seenTo
  rw [List.any_eq_true]
  constructor
  · rintro ⟨i, j, hi, h⟩
    obtain ⟨h1, h2, h3⟩ := (word_tk s l i j hi).1 h
    exact ⟨i, by rw [List.mem_range]; omega, by rw [h3]; exact beq_self_eq_true _⟩
  · rintro ⟨i, hi, h⟩
    rw [List.mem_range] at hi
    exact ⟨i, i + l.length, by omega, (word_tk s l i _ (by omega)).2 ⟨rfl, by omega, eq_of_beq h⟩⟩

end Go.Proofs.Ytjlihidmohokhaa.Gl

/-
  What a node takes of a text, from one place to another, and what a row of places becomes by it; no conditions.
-/
import Derived.Test.YtjlihidmohokhaaEPlain
namespace Go.Proofs.Ytjlihidmohokhaa.Gl

/-- so often, one behind the other -/
def iterR (R : Nat → Nat → Prop) : Nat → Nat → Nat → Prop
  | 0, i, j => i = j
  | n + 1, i, j => ∃ m, R i m ∧ iterR R n m j
mutual
/-- a node takes a text from one place to another -/
def tk (s : Tx) : Nd → Nat → Nat → Prop
  | .mk k f kids lo hi, i, j =>
    (k = 1 ∧ i = j) ∨ (k = 2 ∧ i < s.length ∧ f (s.getD i 0).toNat = true ∧ j = i + 1) ∨ (k = 3 ∧ catK s kids i j) ∨ (k = 4 ∧ altK s kids i j) ∨ (k = 5 ∧ ∃ n : Nat, lo ≤ n ∧ (hi < 0 ∨ (n : Int) ≤ hi) ∧ iterR (fun a b => altK s kids a b) n i j) ∨ (k = 6 ∧ i = 0 ∧ j = 0) ∨ (k = 7 ∧ i = s.length ∧ j = s.length)
def catK (s : Tx) : List Nd → Nat → Nat → Prop
  | [], i, j => i = j
  | d :: l, i, j => ∃ m, tk s d i m ∧ catK s l m j
def altK (s : Tx) : List Nd → Nat → Nat → Prop
  | [], _, _ => False
  | d :: l, i, j => tk s d i j ∨ altK s l i j
end
/-- the whole of a text; some stretch of it -/
def wholeK (s : Tx) (x : Nd) : Prop := tk s x 0 s.length
def someK (s : Tx) (x : Nd) : Prop := ∃ i j, i ≤ s.length ∧ tk s x i j

theorem iterR_one (R : Nat → Nat → Prop) (i j : Nat) : iterR R 1 i j ↔ R i j := by
  constructor
  · rintro ⟨m, h, e⟩; rw [← e]; exact h
  · intro h; exact ⟨j, h, rfl⟩
theorem iterR_add (R : Nat → Nat → Prop) : ∀ a b i j, iterR R (a + b) i j ↔ ∃ m, iterR R a i m ∧ iterR R b m j := by
  intro a
  induction a with
  | zero =>
    intro b i j
    rw [Nat.zero_add]
    constructor
    · intro h; exact ⟨i, rfl, h⟩
    · rintro ⟨m, e, h⟩; rw [show i = m from e]; exact h
  | succ a ih =>
    intro b i j
    rw [show a + 1 + b = (a + b) + 1 by omega]
    constructor
    · rintro ⟨m, h, h2⟩
      obtain ⟨q, h3, h4⟩ := (ih b m j).1 h2
      exact ⟨q, ⟨m, h, h3⟩, h4⟩
    · rintro ⟨q, ⟨m, h, h3⟩, h4⟩
      exact ⟨m, h, (ih b m j).2 ⟨q, h3, h4⟩⟩
theorem iterR_mono {R Q : Nat → Nat → Prop} (h : ∀ i j, R i j → Q i j) : ∀ n i j, iterR R n i j → iterR Q n i j := by
  intro n
  induction n with
  | zero => intro i j e; exact e
  | succ n ih => rintro i j ⟨m, h1, h2⟩; exact ⟨m, h i m h1, ih m j h2⟩
theorem iterR_between {R : Nat → Nat → Prop} {L : Nat} (h : ∀ i j, R i j → i ≤ L → i ≤ j ∧ j ≤ L) : ∀ n i j, iterR R n i j → i ≤ L → i ≤ j ∧ j ≤ L := by
  intro n
  induction n with
  | zero => intro i j e hi; rw [← show i = j from e]; exact ⟨Nat.le_refl _, hi⟩
  | succ n ih =>
    rintro i j ⟨m, h1, h2⟩ hi
    have := h i m h1 hi
    have := ih m j h2 this.2
    omega
mutual
/-- forth, and within the text -/
theorem tk_between (s : Tx) : ∀ (x : Nd) (i j : Nat), tk s x i j → i ≤ s.length → i ≤ j ∧ j ≤ s.length
  | .mk k f kids lo hi, i, j, h, hi0 => by
    rw [tk] at h
    rcases h with ⟨_, e⟩ | ⟨_, h1, _, e⟩ | ⟨_, h⟩ | ⟨_, h⟩ | ⟨_, n, _, _, h⟩ | ⟨_, e1, e2⟩ | ⟨_, e1, e2⟩
    · omega
    · omega
    · exact catK_between s kids i j h hi0
    · exact altK_between s kids i j h hi0
    · exact iterR_between (fun a b => altK_between s kids a b) n i j h hi0
    · omega
    · omega
theorem catK_between (s : Tx) : ∀ (l : List Nd) (i j : Nat), catK s l i j → i ≤ s.length → i ≤ j ∧ j ≤ s.length
  | [], i, j, h, hi0 => by rw [catK] at h; omega
  | d :: l, i, j, h, hi0 => by
    rw [catK] at h
    obtain ⟨m, h1, h2⟩ := h
    have a1 := tk_between s d i m h1 hi0
    have a2 := catK_between s l m j h2 a1.2
    omega
theorem altK_between (s : Tx) : ∀ (l : List Nd) (i j : Nat), altK s l i j → i ≤ s.length → i ≤ j ∧ j ≤ s.length
  | [], i, j, h, _ => by rw [altK] at h; exact h.elim
  | d :: l, i, j, h, hi0 => by
    rw [altK] at h
    rcases h with h | h
    · exact tk_between s d i j h hi0
    · exact altK_between s l i j h hi0
end

/-! places -/
abbrev Pl := Nat → Prop
/-- to which places a relation leads from some -/
def toP (R : Nat → Nat → Prop) (F : Pl) : Pl := fun j => ∃ i, F i ∧ R i j
theorem to_comp (R Q : Nat → Nat → Prop) (F : Pl) : toP Q (toP R F) = toP (fun i j => ∃ m, R i m ∧ Q m j) F := by
  funext j
  apply propext
  constructor
  · rintro ⟨m, ⟨i, hi, h1⟩, h2⟩; exact ⟨i, hi, m, h1, h2⟩
  · rintro ⟨i, hi, m, h1, h2⟩; exact ⟨m, ⟨i, hi, h1⟩, h2⟩
theorem to_iter (R : Nat → Nat → Prop) (n : Nat) (F : Pl) : toP R (toP (iterR R n) F) = toP (iterR R (n + 1)) F := by
  rw [to_comp]
  congr 1
  funext i j
  apply propext
  rw [iterR_add R n 1]
  constructor
  · rintro ⟨m, h1, h2⟩; exact ⟨m, h1, (iterR_one R m j).2 h2⟩
  · rintro ⟨m, h1, h2⟩; exact ⟨m, h1, (iterR_one R m j).1 h2⟩
/-- from so many times up to so many -/
def upToR (R : Nat → Nat → Prop) (lo k : Nat) (F : Pl) : Pl := fun j => ∃ n, lo ≤ n ∧ n ≤ k ∧ toP (iterR R n) F j
theorem upToR_self (R : Nat → Nat → Prop) (lo : Nat) (F : Pl) : upToR R lo lo F = toP (iterR R lo) F := by
  funext j
  apply propext
  constructor
  · rintro ⟨n, h1, h2, h3⟩; rw [show lo = n by omega]; exact h3
  · intro h; exact ⟨lo, Nat.le_refl _, Nat.le_refl _, h⟩
theorem upToR_next (R : Nat → Nat → Prop) {lo k : Nat} (h : lo ≤ k) (F : Pl) : upToR R lo (k + 1) F = fun j => upToR R lo k F j ∨ toP (iterR R (k + 1)) F j := by
  funext j
  apply propext
  constructor
  · rintro ⟨n, h1, h2, h3⟩
    by_cases e : n = k + 1
    · rw [e] at h3; exact Or.inr h3
    · exact Or.inl ⟨n, h1, by omega, h3⟩
  · rintro (⟨n, h1, h2, h3⟩ | h3)
    · exact ⟨n, h1, by omega, h3⟩
    · exact ⟨k + 1, by omega, Nat.le_refl _, h3⟩
/-- where a time more leads nowhere else, no number of times does -/
theorem upToR_stop (R : Nat → Nat → Prop) {lo k : Nat} (h : lo ≤ k) (F : Pl) (hs : ∀ j, toP (iterR R (k + 1)) F j → upToR R lo k F j) : ∀ n, k ≤ n → ∀ j, toP (iterR R n) F j → upToR R lo k F j := by
  intro n
  induction n with
  | zero =>
    intro hn j hj
    exact ⟨0, by omega, Nat.zero_le _, hj⟩
  | succ n ih =>
    intro hn j hj
    by_cases e : k = n + 1
    · exact ⟨n + 1, by omega, by omega, hj⟩
    · rw [← to_iter] at hj
      obtain ⟨m, hm, hr⟩ := hj
      obtain ⟨t, h1, h2, h3⟩ := ih (by omega) m hm
      have h4 : toP (iterR R (t + 1)) F j := by rw [← to_iter]; exact ⟨m, h3, hr⟩
      by_cases e2 : t = k
      · rw [e2] at h4; exact hs j h4
      · exact ⟨t + 1, by omega, by omega, h4⟩
/-- what times take, in all -/
def timesP (R : Nat → Nat → Prop) (lo hi : Int) (F : Pl) : Pl := fun j => ∃ n : Nat, lo ≤ n ∧ (hi < 0 ∨ (n : Int) ≤ hi) ∧ toP (iterR R n) F j
theorem timesP_bounded (R : Nat → Nat → Prop) (lo hi : Nat) (F : Pl) : timesP R lo hi F = upToR R lo hi F := by
  funext j
  apply propext
  constructor
  · rintro ⟨n, h1, h2, h3⟩; exact ⟨n, by omega, by omega, h3⟩
  · rintro ⟨n, h1, h2, h3⟩; exact ⟨n, by omega, Or.inr (by omega), h3⟩
theorem timesP_stop (R : Nat → Nat → Prop) {lo k : Nat} {hi : Int} (h : lo ≤ k) (hk : hi < 0 ∨ (k : Int) ≤ hi) (F : Pl) (hs : ∀ j, toP (iterR R (k + 1)) F j → upToR R lo k F j) : timesP R lo hi F = upToR R lo k F := by
  funext j
  apply propext
  constructor
  · rintro ⟨n, h1, h2, h3⟩
    by_cases e : n ≤ k
    · exact ⟨n, by omega, e, h3⟩
    · exact upToR_stop R h F hs n (by omega) j h3
  · rintro ⟨n, h1, h2, h3⟩; exact ⟨n, by omega, by rcases hk with hk | hk; (· exact Or.inl hk); exact Or.inr (by omega), h3⟩

/-! what each kind of node makes of places -/
theorem to_empty (s : Tx) (f : Bs) (kids : List Nd) (lo hi : Int) (F : Pl) : toP (tk s (.mk 1 f kids lo hi)) F = F := by
  funext j
  apply propext
  constructor
  · rintro ⟨i, hi, h⟩; rw [tk] at h; simp at h; rw [← h]; exact hi
  · intro h; exact ⟨j, h, by rw [tk]; simp⟩
theorem to_set (s : Tx) (f : Bs) (kids : List Nd) (lo hi : Int) (F : Pl) : toP (tk s (.mk 2 f kids lo hi)) F = fun j => ∃ i, j = i + 1 ∧ F i ∧ i < s.length ∧ f (s.getD i 0).toNat = true := by
  funext j
  apply propext
  constructor
  · rintro ⟨i, hF, h⟩; rw [tk] at h; simp at h; exact ⟨i, h.2.2, hF, h.1, by simpa using h.2.1⟩
  · rintro ⟨i, hj, hF, h1, h2⟩; exact ⟨i, hF, by rw [tk]; simp; exact ⟨h1, by simpa using h2, hj⟩⟩
theorem to_begin (s : Tx) (f : Bs) (kids : List Nd) (lo hi : Int) (F : Pl) : toP (tk s (.mk 6 f kids lo hi)) F = fun j => j = 0 ∧ F 0 := by
  funext j
  apply propext
  constructor
  · rintro ⟨i, hF, h⟩; rw [tk] at h; simp at h; rw [h.1] at hF; exact ⟨h.2, hF⟩
  · rintro ⟨e, hF⟩; exact ⟨0, hF, by rw [tk]; simp; exact e⟩
theorem to_end (s : Tx) (f : Bs) (kids : List Nd) (lo hi : Int) (F : Pl) : toP (tk s (.mk 7 f kids lo hi)) F = fun j => j = s.length ∧ F s.length := by
  funext j
  apply propext
  constructor
  · rintro ⟨i, hF, h⟩; rw [tk] at h; simp at h; rw [h.1] at hF; exact ⟨h.2, hF⟩
  · rintro ⟨e, hF⟩; exact ⟨s.length, hF, by rw [tk]; simp; exact e⟩
theorem to_cat (s : Tx) (f : Bs) (kids : List Nd) (lo hi : Int) (F : Pl) : toP (tk s (.mk 3 f kids lo hi)) F = toP (catK s kids) F := by
  congr 1
  funext i j
  apply propext
  rw [tk]
  simp
theorem to_alt (s : Tx) (f : Bs) (kids : List Nd) (lo hi : Int) (F : Pl) : toP (tk s (.mk 4 f kids lo hi)) F = toP (altK s kids) F := by
  congr 1
  funext i j
  apply propext
  rw [tk]
  simp
theorem to_times (s : Tx) (f : Bs) (d : Nd) (lo hi : Int) (F : Pl) : toP (tk s (.mk 5 f [d] lo hi)) F = timesP (tk s d) lo hi F := by
  have hR : (fun a b => altK s [d] a b) = tk s d := by
    funext a b
    apply propext
    rw [altK, altK]
    simp
  funext j
  apply propext
  constructor
  · rintro ⟨i, hF, h⟩
    rw [tk, hR] at h
    simp at h
    obtain ⟨n, h1, h2, h3⟩ := h
    exact ⟨n, h1, h2, i, hF, h3⟩
  · rintro ⟨n, h1, h2, i, hF, h3⟩
    refine ⟨i, hF, ?_⟩
    rw [tk, hR]
    simp
    exact ⟨n, h1, h2, h3⟩
theorem catK_nil (s : Tx) (F : Pl) : toP (catK s []) F = F := by
  funext j
  apply propext
  constructor
  · rintro ⟨i, hF, h⟩; rw [catK] at h; rw [← h]; exact hF
  · intro h; exact ⟨j, h, by rw [catK]⟩
theorem catK_cons (s : Tx) (d : Nd) (l : List Nd) (F : Pl) : toP (catK s (d :: l)) F = toP (catK s l) (toP (tk s d) F) := by
  rw [to_comp]
  congr 1
theorem catK_snoc (s : Tx) (d : Nd) : ∀ (l : List Nd) (F : Pl), toP (catK s (l ++ [d])) F = toP (tk s d) (toP (catK s l) F) := by
  intro l
  induction l with
  | nil => intro F; rw [List.nil_append, catK_cons, catK_nil, catK_nil]
  | cons a l ih => intro F; rw [List.cons_append, catK_cons, ih, catK_cons]
theorem altK_snoc (s : Tx) (d : Nd) : ∀ (l : List Nd) (F : Pl), toP (altK s (l ++ [d])) F = fun j => toP (altK s l) F j ∨ toP (tk s d) F j := by
  intro l F
  have h : ∀ (l : List Nd) i j, altK s (l ++ [d]) i j ↔ altK s l i j ∨ tk s d i j := by
    intro l
    induction l with
    | nil => intro i j; simp only [List.nil_append, altK, or_false, false_or]
    | cons a l ih => intro i j; rw [List.cons_append, altK, altK, ih]; exact or_assoc.symm
  funext j
  apply propext
  constructor
  · rintro ⟨i, hF, hh⟩
    rcases (h l i j).1 hh with hh | hh
    · exact Or.inl ⟨i, hF, hh⟩
    · exact Or.inr ⟨i, hF, hh⟩
  · rintro (⟨i, hF, hh⟩ | ⟨i, hF, hh⟩)
    · exact ⟨i, hF, (h l i j).2 (Or.inl hh)⟩
    · exact ⟨i, hF, (h l i j).2 (Or.inr hh)⟩

end Go.Proofs.Ytjlihidmohokhaa.Gl

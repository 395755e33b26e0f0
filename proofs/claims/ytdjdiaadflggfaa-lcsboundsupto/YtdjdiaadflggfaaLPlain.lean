
/-
  Plain laws of lists of bytes: how a text is cut into lines, when texts are lines, and when they are the lines of the text that they are together; no condition but those that each states.
-/
import Derived.Lib.Strings
import Derived.Lib.Bytealg
namespace Go.Proofs.Ytdjdiaadflggfaa.Ln

/-- where the first line of a text ends -/
def fe : List UInt8 → Nat
  | [] => 0
  | c :: r => if c = 10 then 1 else fe r + 1

/-- the lines of a text -/
def spl : List UInt8 → List (List UInt8)
  | [] => []
  | c :: r => if c = 10 then [c] :: spl r else match spl r with | [] => [[c]] | x :: xs => (c :: x) :: xs

/-- is a text a line? -/
def rt (x : List UInt8) : Bool := !x.isEmpty && fe x == x.length

/-- does a text end with a byte 10? -/
def cl (x : List UInt8) : Bool := x.getLast? == some 10

/-- are texts lines and, but the last, all closed? -/
def wh : List (List UInt8) → Bool
  | [] => true
  | x :: r => rt x && (r.isEmpty || cl x) && wh r

theorem fe_le (l : List UInt8) : fe l ≤ l.length := by
  induction l with
  | nil => simp [fe]
  | cons c r ih => simp only [fe]; split <;> simp <;> omega

theorem fe_pos (l : List UInt8) (h : l ≠ []) : 0 < fe l := by
  cases l with
  | nil => exact absurd rfl h
  | cons c r => simp only [fe]; split <;> omega

theorem spl_ne (l : List UInt8) (h : l ≠ []) : spl l = l.take (fe l) :: spl (l.drop (fe l)) := by
  induction l with
  | nil => exact absurd rfl h
  | cons c r ih =>
    simp only [spl, fe]
    by_cases hc : c = 10
    · simp [hc]
    · simp only [if_neg hc, List.take_succ_cons, List.drop_succ_cons]
      by_cases hr : r = []
      · subst hr; simp [spl, fe]
      · rw [ih hr]

theorem spl_flatten (l : List UInt8) : (spl l).flatten = l := by
  induction l with
  | nil => rfl
  | cons c r ih =>
    simp only [spl]
    split
    · simp [ih]
    · cases hs : spl r with
      | nil => rw [hs] at ih; simp at ih; simp [← ih]
      | cons x xs => rw [hs] at ih; simp at ih ⊢; exact ih

theorem spl_length_le (l : List UInt8) : (spl l).length ≤ l.length := by
  induction l with
  | nil => simp [spl]
  | cons c r ih =>
    simp only [spl]
    split
    · simp; exact ih
    · cases hs : spl r with
      | nil => simp
      | cons x xs => rw [hs] at ih; simp at ih ⊢; omega

theorem spl_eq_nil (l : List UInt8) : spl l = [] ↔ l = [] := by
  constructor
  · intro h
    by_cases hl : l = []
    · exact hl
    · rw [spl_ne l hl] at h; cases h
  · rintro rfl; rfl

theorem fe_at (l : List UInt8) (k : Nat) (hk : k < l.length) (h0 : ∀ j, j < k → l[j]? ≠ some 10) (h1 : l[k]? = some 10 ∨ k + 1 = l.length) : fe l = k + 1 := by
  induction l generalizing k with
  | nil => simp at hk
  | cons c r ih =>
    simp only [fe]
    cases k with
    | zero =>
      by_cases hc : c = 10
      · simp [hc]
      · rw [if_neg hc]
        rcases h1 with h1 | h1
        · simp at h1; exact absurd h1 hc
        · simp at h1; subst h1; rfl
    | succ k =>
      have hc : c ≠ 10 := by have := h0 0 (by omega); simpa using this
      rw [if_neg hc, ih k (by simpa using hk) (fun j hj => by have := h0 (j + 1) (by omega); simpa using this) (by simpa using h1)]

theorem rt_iff (x : List UInt8) : rt x = true ↔ x ≠ [] ∧ fe x = x.length := by
  simp [rt]

theorem fe_full (x : List UInt8) : fe x = x.length ↔ ∀ i, i + 1 < x.length → x[i]? ≠ some 10 := by
  induction x with
  | nil => simp [fe]
  | cons c r ih =>
    simp only [fe]
    by_cases hc : c = 10
    · subst hc
      simp only [if_true, List.length_cons]
      constructor
      · intro h i hi; omega
      · intro h
        by_cases hr : r.length = 0
        · omega
        · exact absurd rfl (h 0 (by omega))
    · simp only [if_neg hc, List.length_cons, Nat.add_right_cancel_iff, ih]
      constructor
      · intro h i hi
        cases i with
        | zero => simpa using hc
        | succ i => simpa using h i (by omega)
      · intro h i hi
        simpa using h (i + 1) (by omega)

theorem rt_cons (c : UInt8) (x : List UInt8) (hc : c ≠ 10) (hx : x ≠ []) : rt (c :: x) = rt x := by
  simp [rt, fe, hc, hx]

theorem cl_cons (c : UInt8) (x : List UInt8) (hx : x ≠ []) : cl (c :: x) = cl x := by
  cases x with
  | nil => exact absurd rfl hx
  | cons d r => simp [cl, List.getLast?_cons]

theorem spl_mem_ne (l : List UInt8) : ∀ x ∈ spl l, x ≠ [] := by
  induction l with
  | nil => simp [spl]
  | cons c r ih =>
    simp only [spl]
    split
    · intro x hx
      rcases List.mem_cons.1 hx with rfl | hx
      · simp
      · exact ih x hx
    · cases hs : spl r with
      | nil => simp
      | cons y ys =>
        rw [hs] at ih
        intro x hx
        rcases List.mem_cons.1 hx with rfl | hx
        · simp
        · exact ih x (List.mem_cons_of_mem _ hx)

theorem wh_spl (l : List UInt8) : wh (spl l) = true := by
  induction l with
  | nil => rfl
  | cons c r ih =>
    have hne := spl_mem_ne r
    simp only [spl]
    by_cases hc : c = 10
    · subst hc
      simp [wh, ih, rt, fe, cl]
    · rw [if_neg hc]
      cases hs : spl r with
      | nil => simp [wh, rt, fe, hc]
      | cons x xs =>
        rw [hs] at ih hne
        have hx : x ≠ [] := hne x (by simp)
        simp only [wh, rt_cons c x hc hx, cl_cons c x hx] at ih ⊢
        exact ih

theorem spl_line (x l : List UInt8) (h : rt x = true) (h2 : cl x = true) : spl (x ++ l) = x :: spl l := by
  induction x with
  | nil => simp [rt] at h
  | cons c r ih =>
    by_cases hc : c = 10
    · subst hc
      have hr : r = [] := by simpa [rt, fe] using h
      subst hr
      simp [spl]
    · by_cases hr : r = []
      · subst hr; simp [cl] at h2; exact absurd h2 hc
      · rw [rt_cons c r hc hr] at h
        rw [cl_cons c r hr] at h2
        simp only [List.cons_append, spl, if_neg hc, ih h h2]

theorem spl_one (x : List UInt8) (h : rt x = true) : spl x = [x] := by
  obtain ⟨hne, hfe⟩ := (rt_iff x).1 h
  rw [spl_ne x hne, hfe]
  simp [spl]

theorem wh_iff (xs : List (List UInt8)) : wh xs = true ↔ spl xs.flatten = xs := by
  constructor
  · intro h
    induction xs with
    | nil => rfl
    | cons x r ih =>
      simp only [wh, Bool.and_eq_true, Bool.or_eq_true] at h
      obtain ⟨⟨h1, h2⟩, h3⟩ := h
      rcases h2 with h2 | h2
      · have hr : r = [] := by simpa using h2
        subst hr
        simpa using spl_one x h1
      · rw [List.flatten_cons, spl_line x _ h1 h2, ih h3]
  · intro h
    rw [← h]
    exact wh_spl _

theorem wh_eq (xs : List (List UInt8)) : wh xs = decide (spl xs.flatten = xs) := by
  rw [Bool.eq_iff_iff, wh_iff]; simp

/-- the texts from the k-th on, as a loop goes through them -/
theorem wh_drop (xs : List (List UInt8)) (k : Nat) (x : List UInt8) (h : xs[k]? = some x) :
    wh (xs.drop k) = (rt x && (decide (xs.length ≤ k + 1) || cl x) && wh (xs.drop (k + 1))) := by
  obtain ⟨hk, hx⟩ := List.getElem?_eq_some_iff.1 h
  rw [List.drop_eq_getElem_cons hk, hx]
  simp only [wh]
  congr 3
  rw [Bool.eq_iff_iff]
  simp

theorem spl_parts (a b : List UInt8) : spl (a ++ [10] ++ b) = spl (a ++ [10]) ++ spl b := by
  induction a with
  | nil => simp [spl]
  | cons c r ih =>
    simp only [List.cons_append, spl]
    by_cases hc : c = 10
    · simp only [if_pos hc]; rw [ih]; rfl
    · simp only [if_neg hc]
      rw [ih]
      cases hs : spl (r ++ [10]) with
      | nil => exact absurd ((spl_eq_nil _).1 hs) (by simp)
      | cons x xs => rfl

/-- how many bytes 10 -/
def ends (l : List UInt8) : Nat := l.count 10

theorem spl_length (l : List UInt8) : (spl l).length = ends l + if l ≠ [] ∧ cl l = false then 1 else 0 := by
  induction l with
  | nil => rfl
  | cons c r ih =>
    simp only [spl, ends] at ih ⊢
    by_cases hr : r = []
    · subst hr
      by_cases hc : c = 10
      · subst hc; rfl
      · simp [hc, spl, cl]
    · rw [cl_cons c r hr]
      by_cases hc : c = 10
      · subst hc
        simp only [if_true, List.length_cons, List.count_cons_self]
        rw [ih]
        simp only [hr, ne_eq, not_false_eq_true, true_and, reduceCtorEq]
        omega
      · have hcount : (c :: r).count 10 = r.count 10 := by rw [List.count_cons_of_ne hc]
        rw [if_neg hc, hcount]
        simp only [hr, ne_eq, not_false_eq_true, true_and, reduceCtorEq] at ih ⊢
        cases hs : spl r with
        | nil => exact absurd ((spl_eq_nil _).1 hs) hr
        | cons x xs => rw [hs] at ih; simpa using ih

/-- the library's search of a byte, told by 'fe' -/
theorem fe_index (l : List UInt8) : (0 ≤ Lib.indexByte l 10 → (fe l : Int) = Lib.indexByte l 10 + 1) ∧ (¬ 0 ≤ Lib.indexByte l 10 → fe l = l.length) ∧ Lib.indexByte l 10 < l.length ∧ -1 ≤ Lib.indexByte l 10 := by
  induction l with
  | nil => simp [Lib.indexByte, fe]
  | cons c r ih =>
    obtain ⟨h1, h2, h3, h4⟩ := ih
    simp only [Lib.indexByte, fe]
    by_cases hc : c = 10
    · subst hc; simp
    · have hb : (c == 10) = false := by simpa using hc
      simp only [hb, if_neg hc, List.length_cons]
      by_cases hm : Lib.indexByte r 10 = -1
      · have := h2 (by omega)
        simp [hm]; omega
      · have hb2 : (Lib.indexByte r 10 == -1) = false := by simpa using hm
        have := h1 (by omega)
        simp [hb2]; omega

theorem cl_suffix (x : List UInt8) : Lib.hasSuffix x [10] = cl x := by
  rw [Bool.eq_iff_iff]
  simp only [Lib.hasSuffix, List.isSuffixOf_iff_suffix, cl, beq_iff_eq]
  constructor
  · rintro ⟨t, rfl⟩; simp
  · intro h
    obtain ⟨ys, rfl⟩ := List.getLast?_eq_some_iff.1 h
    exact ⟨ys, rfl⟩

end Go.Proofs.Ytdjdiaadflggfaa.Ln

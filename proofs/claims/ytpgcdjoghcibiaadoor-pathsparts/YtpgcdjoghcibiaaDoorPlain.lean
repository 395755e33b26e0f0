/-
  Names as lists of bytes: what stands between slashes, what is left behind the first rows of slashes, the last part, and what these have to do with each other; no condition beyond what each states; nothing here speaks of the program.
-/
import Derived.Lib.CutLaws
import Derived.Lib.TrimByte
import Derived.Lib.LastIndexByte
import Derived.Lib.Bytealg
namespace Go.Proofs.YtpgcdjoghcibiaaDoor.Nm
open Go

theorem index_hit (p q : List UInt8) (c : UInt8) (h : ∀ x, x ∈ p → x ≠ c) : Lib.index (p ++ c :: q) [c] = p.length := by
  apply Lib.index_first
  · simp
  · simp [Lib.occAt]
  · intro j hj
    rw [Lib.occAt, List.drop_append_of_le_length (by omega), List.drop_eq_getElem_cons hj]
    have := h _ (List.getElem_mem hj)
    rw [List.cons_append, List.isPrefixOf, Bool.and_eq_false_iff]
    left
    rw [beq_eq_false_iff_ne]
    exact fun e => this e.symm
theorem index_miss (p : List UInt8) (c : UInt8) (h : ∀ x, x ∈ p → x ≠ c) : Lib.index p [c] = -1 := by
  apply Lib.index_none
  intro j hj
  rw [Lib.occAt]
  by_cases hlt : j < p.length
  · rw [List.drop_eq_getElem_cons hlt]
    have := h _ (List.getElem_mem hlt)
    simp [List.isPrefixOf]
    exact fun e => this e.symm
  · rw [List.drop_of_length_le (by omega)]; rfl
theorem cut_hit (p q : List UInt8) (c : UInt8) (h : ∀ x, x ∈ p → x ≠ c) : Lib.cut (p ++ c :: q) [c] = (p, q, true) := by
  unfold Lib.cut
  rw [index_hit p q c h, if_pos (by omega)]
  simp
theorem cut_miss (p : List UInt8) (c : UInt8) (h : ∀ x, x ∈ p → x ≠ c) : Lib.cut p [c] = (p, [], false) := by
  unfold Lib.cut
  rw [index_miss p c h, if_neg (by omega)]

/-- where a byte first is -/
theorem split_at (c : UInt8) (l : List UInt8) : (∀ x, x ∈ l → x ≠ c) ∨ ∃ p q, l = p ++ c :: q ∧ ∀ x, x ∈ p → x ≠ c := by
  induction l with
  | nil => exact Or.inl (fun x h => by cases h)
  | cons b l ih =>
    by_cases hb : b = c
    · exact Or.inr ⟨[], l, by rw [hb]; rfl, fun x h => by cases h⟩
    · rcases ih with h | ⟨p, q, h1, h2⟩
      · left; intro x hx; rcases List.mem_cons.1 hx with rfl | hx
        · exact hb
        · exact h x hx
      · right; refine ⟨b :: p, q, by rw [h1]; rfl, ?_⟩
        intro x hx; rcases List.mem_cons.1 hx with rfl | hx
        · exact hb
        · exact h2 x hx

/-- where a byte last is -/
theorem split_last (c : UInt8) (l : List UInt8) : (∀ x, x ∈ l → x ≠ c) ∨ ∃ p q, l = p ++ c :: q ∧ ∀ x, x ∈ q → x ≠ c := by
  induction l with
  | nil => exact Or.inl (fun x h => by cases h)
  | cons b l ih =>
    rcases ih with h | ⟨p, q, h1, h2⟩
    · by_cases hb : b = c
      · exact Or.inr ⟨[], l, by rw [hb]; rfl, h⟩
      · left; intro x hx; rcases List.mem_cons.1 hx with rfl | hx
        · exact hb
        · exact h x hx
    · exact Or.inr ⟨b :: p, q, by rw [h1]; rfl, h2⟩

/-- what stands between a byte -/
def cuts (c : UInt8) : List UInt8 → List (List UInt8)
  | [] => [[]]
  | b :: l => if b = c then [] :: cuts c l else match cuts c l with
    | [] => [[b]]
    | x :: t => (b :: x) :: t
theorem cuts_hit (c : UInt8) (p q : List UInt8) (h : ∀ x, x ∈ p → x ≠ c) : cuts c (p ++ c :: q) = p :: cuts c q := by
  induction p with
  | nil => simp [cuts]
  | cons b p ih =>
    have hb : b ≠ c := h b (by simp)
    rw [List.cons_append, cuts, if_neg hb, ih (fun x hx => h x (by simp [hx]))]
theorem cuts_miss (c : UInt8) (p : List UInt8) (h : ∀ x, x ∈ p → x ≠ c) : cuts c p = [p] := by
  induction p with
  | nil => rfl
  | cons b p ih => rw [cuts, if_neg (h b (by simp)), ih (fun x hx => h x (by simp [hx]))]
theorem cuts_ne (c : UInt8) (l : List UInt8) : cuts c l ≠ [] := by
  cases l with
  | nil => simp [cuts]
  | cons b l => rw [cuts]; split
                · simp
                · split <;> simp
theorem cuts_len (c : UInt8) (l : List UInt8) : (cuts c l).length ≤ l.length + 1 := by
  induction l with
  | nil => simp [cuts]
  | cons b l ih =>
    rw [cuts]
    split
    · simp; exact ih
    · cases h : cuts c l with
      | nil => simp
      | cons x t => rw [h] at ih; simp at ih ⊢; omega
theorem cuts_one (c : UInt8) (l : List UInt8) (h : (cuts c l).length = 1) : ∀ x, x ∈ l → x ≠ c := by
  rcases split_at c l with h' | ⟨p, q, rfl, h2⟩
  · exact h'
  · rw [cuts_hit c p q h2] at h
    have := cuts_ne c q
    cases hq : cuts c q with
    | nil => exact absurd hq this
    | cons a t => rw [hq] at h; simp at h

/-- the parts that are something -/
def some' (x : List UInt8) : Bool := !x.isEmpty
def parts (l : List UInt8) : List (List UInt8) := (cuts 47 l).filter some'
def base (l : List UInt8) : List UInt8 := (parts l).getLast?.getD []

theorem parts_hit (p q : List UInt8) (h : ∀ x, x ∈ p → x ≠ 47) : parts (p ++ 47 :: q) = (if p = [] then [] else [p]) ++ parts q := by
  rw [parts, cuts_hit 47 p q h, List.filter_cons]
  cases p with
  | nil => simp [some', parts]
  | cons a t => simp [some', parts]
theorem parts_miss (p : List UInt8) (h : ∀ x, x ∈ p → x ≠ 47) : parts p = if p = [] then [] else [p] := by
  rw [parts, cuts_miss 47 p h]
  cases p <;> simp [some']
theorem parts_nil : parts [] = [] := rfl
theorem parts_slash (q : List UInt8) : parts (47 :: q) = parts q := by
  have := parts_hit [] q (fun x h => by cases h)
  simpa using this

theorem parts_at (a q : List UInt8) : parts (a ++ 47 :: q) = parts a ++ parts q := by
  generalize hn : a.length = n
  induction n using Nat.strongRecOn generalizing a with
  | _ n ih =>
    rcases split_at 47 a with h | ⟨p, r, rfl, h2⟩
    · rw [parts_hit a q h, parts_miss a h]
    · rw [List.append_assoc, List.cons_append, parts_hit p _ h2, ih r.length (by simp at hn; omega) r rfl, parts_hit p r h2, List.append_assoc]

theorem parts_slashes (k : Nat) (q : List UInt8) : parts (List.replicate k 47 ++ q) = parts q := by
  induction k with
  | zero => rfl
  | succ k ih => rw [List.replicate_succ, List.cons_append, parts_slash, ih]
theorem parts_end (a : List UInt8) (k : Nat) : parts (a ++ List.replicate k 47) = parts a := by
  cases k with
  | zero => simp
  | succ k =>
    have := parts_slashes k []
    rw [List.append_nil, parts_nil] at this
    rw [List.replicate_succ, parts_at, this, List.append_nil]

/-- a name that is something and begins with no slash has a part -/
theorem parts_some (l : List UInt8) (b : UInt8) (t : List UInt8) (hl : l = b :: t) (hb : b ≠ 47) : parts l ≠ [] := by
  rcases split_at 47 l with h | ⟨p, q, e, h2⟩
  · rw [parts_miss l h, hl]; simp
  · cases p with
    | nil => rw [hl] at e; simp at e; exact absurd e.1 hb
    | cons x p => rw [e, parts_hit _ q h2]; simp

/-- where the first slash is, where its row ends -/
def first (l : List UInt8) : Nat := (l.takeWhile (· != 47)).length
def run (l : List UInt8) : Nat := (l.takeWhile (· == 47)).length
def past (l : List UInt8) : Nat := first l + run (l.drop (first l))
def has (l : List UInt8) : Bool := l.any (· == 47)

/-- a name without what stands ahead of its first rows of slashes -/
def strip : Nat → List UInt8 → List UInt8
  | 0, l => l
  | n + 1, l => if has l then strip n (l.drop (past l)) else l

theorem has_false {l : List UInt8} (h : has l = false) : ∀ x, x ∈ l → x ≠ 47 := by
  intro x hx e
  have := List.any_eq_false.1 h x hx
  simp [e] at this
theorem has_of_miss {l : List UInt8} (h : ∀ x, x ∈ l → x ≠ 47) : has l = false := by
  rw [has, List.any_eq_false]
  intro x hx
  simp [h x hx]
theorem has_split {l : List UInt8} (h : has l = true) : ∃ p q, l = p ++ 47 :: q ∧ ∀ x, x ∈ p → x ≠ 47 := by
  rcases split_at 47 l with h' | h'
  · rw [has_of_miss h'] at h; cases h
  · exact h'
theorem has_hit (p q : List UInt8) : has (p ++ 47 :: q) = true := by simp [has]

theorem strip_miss (n : Nat) {l : List UInt8} (h : has l = false) : strip n l = l := by
  cases n with
  | zero => rfl
  | succ n => rw [strip, h]; rfl
theorem strip_hit (n : Nat) {l : List UInt8} (h : has l = true) : strip (n + 1) l = strip n (l.drop (past l)) := by
  rw [strip, h]; rfl

theorem first_hit (p q : List UInt8) (h : ∀ x, x ∈ p → x ≠ 47) : first (p ++ 47 :: q) = p.length := by
  induction p with
  | nil => simp [first]
  | cons a p ih =>
    have := ih (fun x hx => h x (by simp [hx]))
    have ha := h a (by simp)
    simp [first, ha] at this ⊢
    exact this

/-- the row's end by its marks -/
theorem run_is (l : List UInt8) (k : Nat) (hk : k ≤ l.length) (h1 : ∀ j, j < k → l[j]? = some 47) (h2 : l[k]? ≠ some 47) : run l = k := by
  induction l generalizing k with
  | nil => simp at hk; simp [run, hk]
  | cons b l ih =>
    cases k with
    | zero =>
      have : b ≠ 47 := by simpa using h2
      simp [run, this]
    | succ k =>
      have hb : b = 47 := by simpa using h1 0 (by omega)
      have := ih k (by simpa using hk) (fun j hj => by simpa using h1 (j + 1) (by omega)) (by simpa using h2)
      simp [run, hb] at this ⊢
      exact this
theorem first_is (l : List UInt8) (k : Nat) (hk : k ≤ l.length) (h1 : ∀ j, j < k → l[j]? ≠ some 47) (h2 : l[k]? = some 47) : first l = k := by
  induction l generalizing k with
  | nil => simp at h2
  | cons b l ih =>
    cases k with
    | zero =>
      have : b = 47 := by simpa using h2
      simp [first, this]
    | succ k =>
      have hb : b ≠ 47 := by simpa using h1 0 (by omega)
      have := ih k (by simpa using hk) (fun j hj => by simpa using h1 (j + 1) (by omega)) (by simpa using h2)
      simp [first, hb] at this ⊢
      exact this
theorem has_at {l : List UInt8} {i : Nat} (h : l[i]? = some 47) : has l = true := by
  rw [has, List.any_eq_true]
  exact ⟨47, List.mem_of_getElem? h, by simp⟩
theorem miss_at {l : List UInt8} (h : ∀ j, j < l.length → l[j]? ≠ some 47) : has l = false := by
  apply has_of_miss
  intro x hx e
  obtain ⟨j, hj, hxj⟩ := List.mem_iff_getElem.1 hx
  exact h j hj (by rw [List.getElem?_eq_getElem hj, hxj, e])

/-- the row's end by the marks that a walk has -/
theorem past_is (l : List UInt8) (i e : Nat) (hie : i ≤ e) (he : e ≤ l.length) (h0 : ∀ j, j < i → l[j]? ≠ some 47) (h1 : ∀ j, i ≤ j → j < e → l[j]? = some 47) (hi : l[i]? = some 47) (h2 : l[e]? ≠ some 47) : past l = e := by
  have hf := first_is l i (by omega) h0 hi
  rw [past, hf, run_is (l.drop i) (e - i) (by rw [List.length_drop]; omega) (fun j hj => by rw [List.getElem?_drop]; exact h1 _ (by omega) (by omega)) (by rw [List.getElem?_drop, show i + (e - i) = e by omega]; exact h2)]
  omega

/-- a name that has a slash: what is ahead, a row of slashes, what is behind, which begins with none -/
theorem three (l : List UInt8) (h : has l = true) : ∃ p k r, l = p ++ (List.replicate (k + 1) 47 ++ r) ∧ (∀ x, x ∈ p → x ≠ 47) ∧ (∀ b t, r = b :: t → b ≠ 47) ∧ l.drop (past l) = r ∧ past l = p.length + (k + 1) := by
  obtain ⟨p, q, rfl, hp⟩ := has_split h
  have hq : ∃ k r, q = List.replicate k 47 ++ r ∧ (∀ b t, r = b :: t → b ≠ 47) := by
    clear h
    induction q with
    | nil => exact ⟨0, [], rfl, fun b t h => by cases h⟩
    | cons b q ih =>
      by_cases hb : b = 47
      · obtain ⟨k, r, e, hr⟩ := ih
        exact ⟨k + 1, r, by rw [hb, e]; rfl, hr⟩
      · exact ⟨0, b :: q, rfl, fun c t h => by cases h; exact hb⟩
  obtain ⟨k, r, rfl, hr⟩ := hq
  have e : p ++ 47 :: (List.replicate k 47 ++ r) = p ++ (List.replicate (k + 1) 47 ++ r) := rfl
  have hrun : run (List.replicate (k + 1) 47 ++ r) = k + 1 := by
    refine run_is _ _ (by simp) (fun j hj => ?_) ?_
    · rw [List.getElem?_append_left (by simpa using hj)]; simp [hj]
    · rw [List.getElem?_append_right (by simp)]
      simp
      cases r with
      | nil => simp
      | cons b t => simpa using hr b t rfl
  have hpast : past (p ++ 47 :: (List.replicate k 47 ++ r)) = p.length + (k + 1) := by
    rw [past, first_hit p _ hp, List.drop_left, ← List.cons_append, ← List.replicate_succ, hrun]
  refine ⟨p, k, r, e, hp, hr, ?_, hpast⟩
  rw [hpast, e, ← List.drop_drop, List.drop_left]
  have := List.drop_left (l₁ := List.replicate (k + 1) (47 : UInt8)) (l₂ := r)
  rwa [List.length_replicate] at this
theorem past_le (l : List UInt8) (h : has l = true) : past l ≤ l.length := by
  obtain ⟨p, k, r, e, _, _, _, h2⟩ := three l h
  have : l.length = p.length + (k + 1 + r.length) := by conv => lhs; rw [e]
                                                        simp
  omega
theorem past_pos (l : List UInt8) (h : has l = true) : 1 ≤ past l := by
  obtain ⟨p, k, r, e, _, _, _, h2⟩ := three l h
  omega

/-- stripped twice -/
theorem strip_strip (a b : Nat) : ∀ l, strip b (strip a l) = strip (a + b) l := by
  induction a with
  | zero => intro l; rw [Nat.zero_add]; rfl
  | succ a ih =>
    intro l
    cases h : has l with
    | false => rw [strip_miss _ h, strip_miss _ h, strip_miss _ h]
    | true => rw [strip_hit _ h, ih, show a + 1 + b = (a + b) + 1 by omega, strip_hit _ h]

/-- what is left ends the name -/
theorem strip_suffix (n : Nat) : ∀ l, ∃ k, k ≤ l.length ∧ strip n l = l.drop k := by
  induction n with
  | zero => intro l; exact ⟨0, by omega, rfl⟩
  | succ n ih =>
    intro l
    cases h : has l with
    | false => exact ⟨0, by omega, strip_miss _ h⟩
    | true =>
      obtain ⟨k, hk, e⟩ := ih (l.drop (past l))
      rw [List.length_drop] at hk
      have := past_le l h
      exact ⟨past l + k, by omega, by rw [strip_hit _ h, e, List.drop_drop]⟩

theorem last_app {α : Type} (a b : List α) (hb : b ≠ []) : (a ++ b).getLast? = b.getLast? := by
  rw [List.getLast?_append]
  cases h : b.getLast? with
  | none => exact absurd (List.getLast?_eq_none_iff.1 h) hb
  | some x => rfl

/-- the last part stays -/
theorem base_one (l : List UInt8) (h : has l = true) (hend : l.getLast? ≠ some 47) : base (l.drop (past l)) = base l ∧ (l.drop (past l)).getLast? ≠ some 47 := by
  obtain ⟨p, k, r, e, hp, hr, hd, _⟩ := three l h
  rw [hd]
  cases r with
  | nil =>
    exfalso
    apply hend
    rw [e, List.append_nil, List.replicate_succ', ← List.append_assoc]
    simp
  | cons b t =>
    have hne := parts_some (b :: t) b t rfl (hr b t rfl)
    refine ⟨?_, ?_⟩
    · have hpl : parts l = (if p = [] then [] else [p]) ++ parts (b :: t) := by
        rw [e, List.replicate_succ, List.cons_append, parts_hit p _ hp, parts_slashes]
      rw [base, base, hpl, last_app _ _ hne]
    · rw [e] at hend
      rw [last_app _ _ (by simp), last_app _ _ (by simp)] at hend
      exact hend
theorem base_strip (n : Nat) : ∀ l : List UInt8, l.getLast? ≠ some 47 → base (strip n l) = base l := by
  induction n with
  | zero => intro l _; rfl
  | succ n ih =>
    intro l hend
    cases h : has l with
    | false => rw [strip_miss _ h]
    | true =>
      obtain ⟨h1, h2⟩ := base_one l h hend
      rw [strip_hit _ h, ih _ h2, h1]

/-- the last part as the program finds it -/
theorem trim_spec (l : List UInt8) : ∃ k, l = Lib.trimRightB l 47 ++ List.replicate k 47 ∧ (Lib.trimRightB l 47).getLast? ≠ some 47 := by
  have key : ∀ m : List UInt8, ∃ k, m = List.replicate k 47 ++ m.dropWhile (· == 47) ∧ (m.dropWhile (· == 47)).head? ≠ some 47 := by
    intro m
    induction m with
    | nil => exact ⟨0, rfl, by simp⟩
    | cons b m ih =>
      by_cases hb : b = 47
      · obtain ⟨k, e, h⟩ := ih
        refine ⟨k + 1, ?_, ?_⟩
        · rw [hb, List.dropWhile_cons_of_pos (by simp)]
          conv => lhs; rw [e]
          rfl
        · rw [hb, List.dropWhile_cons_of_pos (by simp)]; exact h
      · refine ⟨0, ?_, ?_⟩
        · rw [List.dropWhile_cons_of_neg (by simpa using hb)]; rfl
        · rw [List.dropWhile_cons_of_neg (by simpa using hb)]; simpa using hb
  obtain ⟨k, e, h⟩ := key l.reverse
  refine ⟨k, ?_, ?_⟩
  · have := congrArg List.reverse e
    rw [List.reverse_reverse, List.reverse_append, List.reverse_replicate] at this
    exact this
  · rw [Lib.trimRightB, List.getLast?_reverse]; exact h
theorem base_behind (p q : List UInt8) (hq : ∀ x, x ∈ q → x ≠ 47) (hne : q ≠ []) : base (p ++ 47 :: q) = q := by
  rw [base, parts_at, parts_miss q hq, if_neg hne]
  simp
theorem base_plain (q : List UInt8) (hq : ∀ x, x ∈ q → x ≠ 47) : base q = q := by
  rw [base, parts_miss q hq]
  by_cases h : q = []
  · rw [if_pos h, h]; rfl
  · rw [if_neg h]; rfl
theorem base_trim (l : List UInt8) : base l = base (Lib.trimRightB l 47) := by
  obtain ⟨k, e, _⟩ := trim_spec l
  conv => lhs; rw [e]
  rw [base, base, parts_end]

end Go.Proofs.YtpgcdjoghcibiaaDoor.Nm

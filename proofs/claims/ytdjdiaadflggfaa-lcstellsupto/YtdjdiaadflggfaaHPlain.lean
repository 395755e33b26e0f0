
/-
  Plain laws of the longest common row of two rows of lines, and of the steps that lead from one to the other; no condition but those that each states.
-/
import Derived.Test.YtdjdiaadflggfaaAPlain
namespace Go.Proofs.Ytdjdiaadflggfaa.Ol
open Go.Proofs.Ytdjdiaadflggfaa.Ln

def lcGo (f : List Tx → Nat) (x : Tx) : List Tx → Nat
  | [] => 0
  | y :: b => max (max (f (y :: b)) (lcGo f x b)) (if x = y then f b + 1 else 0)
/-- how long the longest common row is -/
def lc : List Tx → List Tx → Nat
  | [] => fun _ => 0
  | x :: a => lcGo (lc a) x
theorem lc_nil (b : List Tx) : lc [] b = 0 := rfl
theorem lc_nilr (a : List Tx) : lc a [] = 0 := by cases a <;> rfl
theorem lc_cons (x y : Tx) (a b : List Tx) : lc (x :: a) (y :: b) = max (max (lc a (y :: b)) (lc (x :: a) b)) (if x = y then lc a b + 1 else 0) := rfl
/-- no common row is longer -/
theorem lc_most (a : List Tx) : ∀ (b s : List Tx), s.Sublist a → s.Sublist b → s.length ≤ lc a b := by
  induction a with
  | nil => intro b s h _; rw [List.sublist_nil.1 h]; simp
  | cons x a ih =>
    intro b
    induction b with
    | nil => intro s _ h; rw [List.sublist_nil.1 h]; simp
    | cons y b ihb =>
      intro s h1 h2
      rw [lc_cons]
      cases h1 with
      | cons _ h1 => have := ih (y :: b) s h1 h2; omega
      | cons_cons _ h1 =>
        rename_i s'
        cases h2 with
        | cons _ h2 => have := ihb (x :: s') (h1.cons_cons x) h2; omega
        | cons_cons _ h2 => have := ih b s' h1 h2; rw [if_pos rfl]; simp; omega
/-- one common row is so long -/
theorem lc_some (a : List Tx) : ∀ b : List Tx, ∃ s : List Tx, s.Sublist a ∧ s.Sublist b ∧ s.length = lc a b := by
  induction a with
  | nil => intro b; exact ⟨[], List.Sublist.refl _, List.nil_sublist _, rfl⟩
  | cons x a ih =>
    intro b
    induction b with
    | nil => exact ⟨[], List.nil_sublist _, List.Sublist.refl _, rfl⟩
    | cons y b ihb =>
      rw [lc_cons]
      obtain ⟨s1, a1, b1, e1⟩ := ih (y :: b)
      obtain ⟨s2, a2, b2, e2⟩ := ihb
      obtain ⟨s3, a3, b3, e3⟩ := ih b
      by_cases h3 : max (lc a (y :: b)) (lc (x :: a) b) ≤ (if x = y then lc a b + 1 else 0)
      · by_cases hxy : x = y
        · subst hxy
          rw [if_pos rfl] at h3 ⊢
          exact ⟨x :: s3, a3.cons_cons x, b3.cons_cons x, by simp; omega⟩
        · rw [if_neg hxy] at h3 ⊢
          exact ⟨s1, a1.cons x, b1, by omega⟩
      · by_cases h4 : lc a (y :: b) ≤ lc (x :: a) b
        · exact ⟨s2, a2, b2.cons y, by omega⟩
        · exact ⟨s1, a1.cons x, b1, by omega⟩
theorem lc_of {a b : List Tx} {n : Nat} (h1 : ∃ s : List Tx, s.Sublist a ∧ s.Sublist b ∧ s.length = n) (h2 : ∀ s : List Tx, s.Sublist a → s.Sublist b → s.length ≤ n) : lc a b = n := by
  obtain ⟨s, ha, hb, rfl⟩ := h1
  obtain ⟨t, ta, tb, te⟩ := lc_some a b
  have := lc_most a b s ha hb
  have := h2 t ta tb
  omega
theorem lc_symm (a b : List Tx) : lc a b = lc b a := by
  obtain ⟨s, ha, hb, e⟩ := lc_some b a
  exact lc_of ⟨s, hb, ha, e⟩ (fun t h1 h2 => lc_most b a t h2 h1)
theorem lc_le (a b : List Tx) : lc a b ≤ a.length ∧ lc a b ≤ b.length := by
  obtain ⟨s, ha, hb, e⟩ := lc_some a b
  exact ⟨e ▸ ha.length_le, e ▸ hb.length_le⟩
theorem lc_sub {a s : List Tx} (h : s.Sublist a) : lc a s = s.length := lc_of ⟨s, h, List.Sublist.refl _, rfl⟩ (fun _ _ h2 => h2.length_le)
theorem lc_mono {a s : List Tx} (b : List Tx) (h : s.Sublist a) : lc s b ≤ lc a b := by
  obtain ⟨t, ha, hb, e⟩ := lc_some s b
  exact e ▸ lc_most a b t (ha.trans h) hb
theorem lc_self (a : List Tx) : lc a a = a.length := lc_sub (List.Sublist.refl _)
theorem lc_head (x : Tx) (a b : List Tx) : lc (x :: a) (x :: b) = lc a b + 1 := by
  refine lc_of ?_ ?_
  · obtain ⟨s, ha, hb, e⟩ := lc_some a b
    exact ⟨x :: s, ha.cons_cons x, hb.cons_cons x, by simp [e]⟩
  · intro s ha hb
    cases s with
    | nil => simp
    | cons z s =>
      have h1 : s.Sublist a := by simpa using ha.tail
      have h2 : s.Sublist b := by simpa using hb.tail
      have := lc_most a b s h1 h2
      simp; omega
theorem lc_front (c a b : List Tx) : lc (c ++ a) (c ++ b) = lc a b + c.length := by
  induction c with
  | nil => simp
  | cons x c ih => rw [List.cons_append, List.cons_append, lc_head, ih]; simp; omega
theorem lc_rev (a b : List Tx) : lc a.reverse b.reverse = lc a b := by
  obtain ⟨s, ha, hb, e⟩ := lc_some a b
  refine lc_of ⟨s.reverse, ha.reverse, hb.reverse, by simp [e]⟩ (fun t h1 h2 => ?_)
  have := lc_most a b t.reverse (by simpa using h1.reverse) (by simpa using h2.reverse)
  simpa using this
theorem lc_back (c a b : List Tx) : lc (a ++ c) (b ++ c) = lc a b + c.length := by
  rw [← lc_rev, List.reverse_append, List.reverse_append, lc_front, lc_rev, List.length_reverse]

def dfGo (f : List Tx → List Oq) (x : Tx) (a : List Tx) : List Tx → List Oq
  | [] => (3, 0, x) :: f []
  | y :: b => if x = y ∧ lc (x :: a) (y :: b) = lc a b + 1 then (2, 0, x) :: f b else if lc (x :: a) b ≤ lc a (y :: b) then (3, 0, x) :: f (y :: b) else (4, 0, y) :: dfGo f x a b
/-- the steps from one to the other -/
def df : List Tx → List Tx → List Oq
  | [] => fun b => b.map fun y => (4, 0, y)
  | x :: a => dfGo (df a) x a
theorem df_nil (b : List Tx) : df [] b = b.map fun y => (4, 0, y) := rfl
theorem df_nilr (x : Tx) (a : List Tx) : df (x :: a) [] = (3, 0, x) :: df a [] := rfl
theorem df_cons (x y : Tx) (a b : List Tx) : df (x :: a) (y :: b) = if x = y ∧ lc (x :: a) (y :: b) = lc a b + 1 then (2, 0, x) :: df a b else if lc (x :: a) b ≤ lc a (y :: b) then (3, 0, x) :: df a (y :: b) else (4, 0, y) :: df (x :: a) b := rfl
/-- induction on both rows, as the steps are told -/
theorem df_ind {P : List Tx → List Tx → Prop} (h0 : ∀ b, P [] b) (h1 : ∀ x a, P a [] → P (x :: a) []) (h2 : ∀ x y a b, P a (y :: b) → P (x :: a) b → P a b → P (x :: a) (y :: b)) : ∀ a b, P a b := by
  intro a
  induction a with
  | nil => exact h0
  | cons x a ih =>
    intro b
    induction b with
    | nil => exact h1 x a (ih [])
    | cons y b ihb => exact h2 x y a b (ih _) ihb (ih _)
/-- the texts of one side: all but those of one kind -/
def sdt (but : Int) (l : List Oq) : List Tx := (l.filter fun x => x.1 != but).map (·.2.2)
theorem sdt_app (but : Int) (a b : List Oq) : sdt but (a ++ b) = sdt but a ++ sdt but b := by simp [sdt]
theorem sdt_cons (but : Int) (x : Oq) (l : List Oq) : sdt but (x :: l) = (if x.1 = but then [] else [x.2.2]) ++ sdt but l := by
  unfold sdt
  by_cases h : x.1 = but
  · have : (x.1 != but) = false := by simp [h]
    simp [h]
  · have : (x.1 != but) = true := by simpa using h
    simp [this, h]
def kept2 (l : List Oq) : Nat := (l.filter fun x => x.1 == 2).length
theorem kept2_cons (x : Oq) (l : List Oq) : kept2 (x :: l) = (if x.1 = 2 then 1 else 0) + kept2 l := by
  unfold kept2
  by_cases h : x.1 = 2
  · simp [h]; omega
  · have : (x.1 == 2) = false := by simpa using h
    simp [this, h]
theorem sdt_ins (b : List Tx) : sdt 4 (b.map fun y => ((4, 0, y) : Oq)) = [] ∧ sdt 3 (b.map fun y => ((4, 0, y) : Oq)) = b ∧ kept2 (b.map fun y => ((4, 0, y) : Oq)) = 0 := by
  induction b with
  | nil => exact ⟨rfl, rfl, rfl⟩
  | cons y b ih =>
    obtain ⟨h1, h2, h3⟩ := ih
    rw [List.map_cons, sdt_cons, sdt_cons, kept2_cons, h1, h2, h3]
    simp
/-- the steps lead from one to the other, with as many kept as is the longest common row -/
theorem df_leads (a b : List Tx) : sdt 4 (df a b) = a ∧ sdt 3 (df a b) = b ∧ kept2 (df a b) = lc a b := by
  refine df_ind (P := fun a b => sdt 4 (df a b) = a ∧ sdt 3 (df a b) = b ∧ kept2 (df a b) = lc a b) ?_ ?_ ?_ a b
  · intro b
    exact sdt_ins b
  · rintro x a ⟨h1, h2, h3⟩
    rw [df_nilr, sdt_cons, sdt_cons, kept2_cons, h1, h2, h3]
    simp [lc_nilr]
  · rintro x y a b ⟨i1, i2, i3⟩ ⟨j1, j2, j3⟩ ⟨k1, k2, k3⟩
    rw [df_cons]
    by_cases h : x = y ∧ lc (x :: a) (y :: b) = lc a b + 1
    · rw [if_pos h, sdt_cons, sdt_cons, kept2_cons, k1, k2, k3, h.2, ← h.1]
      exact ⟨rfl, rfl, by simp; omega⟩
    · have hm : lc (x :: a) (y :: b) = max (lc a (y :: b)) (lc (x :: a) b) := by
        by_cases hxy : x = y
        · have h2 : ¬ lc (x :: a) (y :: b) = lc a b + 1 := fun e => h ⟨hxy, e⟩
          rw [lc_cons, if_pos hxy] at h2 ⊢
          omega
        · rw [lc_cons, if_neg hxy]; omega
      rw [if_neg h, hm]
      by_cases h2 : lc (x :: a) b ≤ lc a (y :: b)
      · rw [if_pos h2, sdt_cons, sdt_cons, kept2_cons, i1, i2, i3]
        exact ⟨rfl, rfl, by simp; omega⟩
      · rw [if_neg h2, sdt_cons, sdt_cons, kept2_cons, j1, j2, j3]
        exact ⟨rfl, rfl, by simp; omega⟩
/-- each step is a line of one of the rows -/
theorem df_kinds (a b : List Tx) : ∀ x ∈ df a b, (x.1 = 2 ∧ x.2.2 ∈ a ∧ x.2.2 ∈ b ∨ x.1 = 3 ∧ x.2.2 ∈ a ∨ x.1 = 4 ∧ x.2.2 ∈ b) ∧ x.2.1 = 0 := by
  refine df_ind (P := fun a b => ∀ x ∈ df a b, (x.1 = 2 ∧ x.2.2 ∈ a ∧ x.2.2 ∈ b ∨ x.1 = 3 ∧ x.2.2 ∈ a ∨ x.1 = 4 ∧ x.2.2 ∈ b) ∧ x.2.1 = 0) ?_ ?_ ?_ a b
  · intro b x hx
    obtain ⟨y, hy, rfl⟩ := List.mem_map.1 hx
    exact ⟨Or.inr (Or.inr ⟨rfl, hy⟩), rfl⟩
  · intro z a ih x hx
    rw [df_nilr] at hx
    rcases List.mem_cons.1 hx with rfl | hx
    · exact ⟨Or.inr (Or.inl ⟨rfl, by simp⟩), rfl⟩
    · obtain ⟨h, h0⟩ := ih x hx
      refine ⟨?_, h0⟩
      rcases h with ⟨h1, h2, h3⟩ | ⟨h1, h2⟩ | ⟨h1, h2⟩
      · exact Or.inl ⟨h1, by simp [h2], h3⟩
      · exact Or.inr (Or.inl ⟨h1, by simp [h2]⟩)
      · exact Or.inr (Or.inr ⟨h1, h2⟩)
  · intro z y a b i j k x hx
    rw [df_cons] at hx
    by_cases h : z = y ∧ lc (z :: a) (y :: b) = lc a b + 1
    · rw [if_pos h] at hx
      rcases List.mem_cons.1 hx with rfl | hx
      · exact ⟨Or.inl ⟨rfl, by simp, by simp [h.1]⟩, rfl⟩
      · obtain ⟨h, h0⟩ := k x hx
        refine ⟨?_, h0⟩
        rcases h with ⟨h1, h2, h3⟩ | ⟨h1, h2⟩ | ⟨h1, h2⟩
        · exact Or.inl ⟨h1, by simp [h2], by simp [h3]⟩
        · exact Or.inr (Or.inl ⟨h1, by simp [h2]⟩)
        · exact Or.inr (Or.inr ⟨h1, by simp [h2]⟩)
    · rw [if_neg h] at hx
      by_cases h2 : lc (z :: a) b ≤ lc a (y :: b)
      · rw [if_pos h2] at hx
        rcases List.mem_cons.1 hx with rfl | hx
        · exact ⟨Or.inr (Or.inl ⟨rfl, by simp⟩), rfl⟩
        · obtain ⟨h, h0⟩ := i x hx
          refine ⟨?_, h0⟩
          rcases h with ⟨h1, h2, h3⟩ | ⟨h1, h2⟩ | ⟨h1, h2⟩
          · exact Or.inl ⟨h1, by simp [h2], h3⟩
          · exact Or.inr (Or.inl ⟨h1, by simp [h2]⟩)
          · exact Or.inr (Or.inr ⟨h1, h2⟩)
      · rw [if_neg h2] at hx
        rcases List.mem_cons.1 hx with rfl | hx
        · exact ⟨Or.inr (Or.inr ⟨rfl, by simp⟩), rfl⟩
        · obtain ⟨h, h0⟩ := j x hx
          refine ⟨?_, h0⟩
          rcases h with ⟨h1, h2, h3⟩ | ⟨h1, h2⟩ | ⟨h1, h2⟩
          · exact Or.inl ⟨h1, h2, by simp [h3]⟩
          · exact Or.inr (Or.inl ⟨h1, h2⟩)
          · exact Or.inr (Or.inr ⟨h1, by simp [h2]⟩)
theorem sdt_len (but : Int) (l : List Oq) : (sdt but l).length + (l.filter fun x => x.1 == but).length = l.length := by
  unfold sdt
  rw [List.length_map]
  induction l with
  | nil => rfl
  | cons x l ih =>
    by_cases h : x.1 = but
    · have e1 : (x.1 != but) = false := by simp [h]
      have e2 : (x.1 == but) = true := by simp [h]
      simp only [List.filter_cons, e1, e2, List.length_cons]; simp; omega
    · have e1 : (x.1 != but) = true := by simpa using h
      have e2 : (x.1 == but) = false := by simpa using h
      simp only [List.filter_cons, e1, e2, List.length_cons]; simp; omega
/-- how many steps, and how many changes -/
theorem df_len (a b : List Tx) : (df a b).length = a.length + b.length - lc a b ∧ chs (df a b) = a.length + b.length - 2 * lc a b := by
  refine df_ind (P := fun a b => (df a b).length = a.length + b.length - lc a b ∧ chs (df a b) = a.length + b.length - 2 * lc a b) ?_ ?_ ?_ a b
  · intro b
    rw [df_nil, lc_nil]
    refine ⟨by simp, ?_⟩
    induction b with
    | nil => rfl
    | cons y b ih => rw [List.map_cons, show (((4, 0, y) : Oq) :: b.map fun y => ((4, 0, y) : Oq)) = [(4, 0, y)] ++ b.map fun y => ((4, 0, y) : Oq) from rfl, chs_app, ih]; simp [chs, chg]; omega
  · rintro x a ⟨h1, h2⟩
    rw [df_nilr, show (((3, 0, x) : Oq) :: df a []) = [(3, 0, x)] ++ df a [] from rfl, List.length_append, chs_app, h1, h2, lc_nilr, lc_nilr]
    simp [chs, chg]; omega
  · rintro x y a b ⟨i1, i2⟩ ⟨j1, j2⟩ ⟨k1, k2⟩
    rw [df_cons]
    have b1 := lc_le a (y :: b)
    have b2 := lc_le (x :: a) b
    have b3 := lc_le a b
    simp only [List.length_cons] at b1 b2 b3 i1 i2 j1 j2 ⊢
    by_cases h : x = y ∧ lc (x :: a) (y :: b) = lc a b + 1
    · rw [if_pos h, show (((2, 0, x) : Oq) :: df a b) = [(2, 0, x)] ++ df a b from rfl, List.length_append, chs_app, k1, k2, h.2]
      simp [chs, chg]; omega
    · have hm : lc (x :: a) (y :: b) = max (lc a (y :: b)) (lc (x :: a) b) := by
        by_cases hxy : x = y
        · have h2 : ¬ lc (x :: a) (y :: b) = lc a b + 1 := fun e => h ⟨hxy, e⟩
          rw [lc_cons, if_pos hxy] at h2 ⊢
          omega
        · rw [lc_cons, if_neg hxy]; omega
      rw [if_neg h, hm]
      by_cases h2 : lc (x :: a) b ≤ lc a (y :: b)
      · rw [if_pos h2, show (((3, 0, x) : Oq) :: df a (y :: b)) = [(3, 0, x)] ++ df a (y :: b) from rfl, List.length_append, chs_app, i1, i2]
        simp [chs, chg]; omega
      · rw [if_neg h2, show (((4, 0, y) : Oq) :: df (x :: a) b) = [(4, 0, y)] ++ df (x :: a) b from rfl, List.length_append, chs_app, j1, j2]
        simp [chs, chg]; omega
/-- from a row to itself all is kept -/
theorem df_self (a : List Tx) : df a a = a.map fun x => (2, 0, x) := by
  induction a with
  | nil => rfl
  | cons x a ih => rw [df_cons, if_pos ⟨rfl, lc_head x a a⟩, ih]; rfl
theorem df_all (a : List Tx) : df a [] = a.map fun x => (3, 0, x) := by
  induction a with
  | nil => rfl
  | cons x a ih => rw [df_nilr, ih]; rfl
/-- without common lines all goes, and then all comes -/
theorem df_none (a b : List Tx) (h : lc a b = 0) : df a b = df a [] ++ df [] b := by
  induction a with
  | nil => rfl
  | cons x a ih =>
    have h0 : lc a b = 0 := by have := lc_mono b (List.sublist_cons_self x a); omega
    cases b with
    | nil => rw [df_nil]; simp
    | cons y b =>
      rw [df_cons, if_neg (by omega), if_pos (by have := lc_mono (a := y :: b) (x :: a) (List.sublist_cons_self y b); rw [lc_symm b, lc_symm (y :: b)] at this; omega), ih h0, df_nilr]
      rfl

end Go.Proofs.Ytdjdiaadflggfaa.Ol

/-
  What is put together of nodes may be, and what it takes; no conditions.
-/
import Derived.Test.YtjlihidmohokhaaNRun
import Derived.Test.YtjlihidmohokhaaECnt
namespace Go.Proofs.Ytjlihidmohokhaa.Gl

mutual
theorem within_mono : ∀ (x : Nd) (a b : Nat), a ≤ b → withinN x a = true → withinN x b = true
  | .mk k f kids lo hi, a, b, hab, h => by
    rw [withinN] at h ⊢
    simp only [Bool.and_eq_true, Bool.not_eq_true', Bool.and_eq_false_iff] at h ⊢
    refine ⟨⟨h.1.1, ?_⟩, withins_mono kids (a - 1) (b - 1) (by omega) h.2⟩
    rcases h.1.2 with h1 | h1
    · left
      rw [beq_eq_false_iff_ne] at h1 ⊢
      omega
    · exact Or.inr h1
theorem withins_mono : ∀ (l : List Nd) (a b : Nat), a ≤ b → withins l a = true → withins l b = true
  | [], _, _, _, _ => by rw [withins]
  | d :: l, a, b, hab, h => by
    rw [withins] at h ⊢
    simp only [Bool.and_eq_true] at h ⊢
    exact ⟨within_mono d a b hab h.1, withins_mono l a b hab h.2⟩
end
mutual
theorem within_cnt : ∀ (x : Nd) (m : Nat), withinN x m = true → withinN x (cntN x) = true
  | .mk k f kids lo hi, m, h => by
    rw [withinN] at h ⊢
    rw [cntN]
    simp only [Bool.and_eq_true, Bool.not_eq_true', Bool.and_eq_false_iff] at h ⊢
    exact ⟨⟨h.1.1, Or.inl (by rw [beq_eq_false_iff_ne]; omega)⟩, by rw [Nat.add_sub_cancel_left]; exact withins_cnt kids (m - 1) h.2⟩
theorem withins_cnt : ∀ (l : List Nd) (m : Nat), withins l m = true → withins l (cnts l) = true
  | [], _, _ => by rw [withins]
  | d :: l, m, h => by
    rw [withins] at h ⊢
    rw [cnts]
    simp only [Bool.and_eq_true] at h ⊢
    exact ⟨within_mono d _ _ (by omega) (within_cnt d m h.1), withins_mono l _ _ (by omega) (withins_cnt l m h.2)⟩
end
theorem right_small {x : Nd} (h : rightN x = true) (hc : cntN x ≤ 100) : withinN x 100 = true := by
  unfold rightN at h
  simp only [Bool.and_eq_true] at h
  exact within_mono x _ _ hc (within_cnt x _ h.2)
theorem noSet_none : noSet none_ = true := by decide +kernel
/-- several together -/
theorem right_of {k : Int} {l : List Nd} {m : Nat} (hk : k = 3 ∨ k = 4) (h2 : 2 ≤ l.length) (hw : ∀ d ∈ l, withinN d m = true) : withinN (.mk k none_ l 0 0) (m + 1) = true := by
  rw [withinN]
  have hws : ∀ l : List Nd, (∀ d ∈ l, withinN d m = true) → withins l m = true := by
    intro l
    induction l with
    | nil => intro _; rw [withins]
    | cons d l ih =>
      intro h
      rw [withins, h d (by simp), ih (fun e he => h e (by simp [he]))]
      rfl
  simp only [Bool.and_eq_true, Bool.not_eq_true', Bool.and_eq_false_iff]
  refine ⟨⟨?_, Or.inl (by rw [beq_eq_false_iff_ne]; omega)⟩, by rw [Nat.add_sub_cancel]; exact hws l hw⟩
  unfold aloneN
  rw [if_neg (by omega), if_neg (by omega), if_pos hk, noSet_none]
  simp [h2, noTimes]
theorem right_times {d : Nd} {m : Nat} {lo hi : Int} (ht : okTimes lo hi = true) (hw : withinN d m = true) : withinN (.mk 5 none_ [d] lo hi) (m + 1) = true := by
  rw [withinN, withins, withins, Nat.add_sub_cancel, hw]
  unfold aloneN
  rw [if_neg (by omega), if_neg (by omega), if_neg (by omega), if_pos rfl, noSet_none, ht]
  simp
theorem size_cat (k : Int) (hk : k ≠ 5) (f : Bs) (l : List Nd) (lo hi : Int) : sizeN (.mk k f l lo hi) = 1 + sizes l := by
  rw [sizeN, show reps k lo hi = 1 from by unfold reps; rw [if_neg hk], Nat.one_mul]
/-- any bytes -/
def allB : Bs := fun _ => true
def anyN : Nd := .mk 5 none_ [.mk 2 allB [] 0 0] 0 (-1)
theorem word_all : word allB 0 = 18446744073709551615 ∧ word allB 1 = 18446744073709551615 ∧ word allB 2 = 18446744073709551615 ∧ word allB 3 = 18446744073709551615 := by decide +kernel
theorem any_iter (s : Tx) : ∀ n i j, iterR (tk s (.mk 2 allB [] 0 0)) n i j ↔ j = i + n ∧ (n = 0 ∨ j ≤ s.length) := by
  intro n
  induction n with
  | zero => intro i j; constructor
            · intro h; exact ⟨(show i = j from h).symm, Or.inl rfl⟩
            · rintro ⟨h, _⟩; exact h.symm
  | succ n ih =>
    intro i j
    constructor
    · rintro ⟨m, h1, h2⟩
      rw [tk] at h1
      simp at h1
      have h3 := (ih m j).1 h2
      omega
    · rintro ⟨h1, h2⟩
      refine ⟨i + 1, ?_, (ih (i + 1) j).2 ⟨by omega, by omega⟩⟩
      rw [tk]
      simp [allB]
      omega
theorem any_tk (s : Tx) (i j : Nat) (hi : i ≤ s.length) : tk s anyN i j ↔ i ≤ j ∧ j ≤ s.length := by
  have hR : (fun a b => altK s [Nd.mk 2 allB [] 0 0] a b) = tk s (.mk 2 allB [] 0 0) := by
    funext a b
    apply propext
    rw [altK, altK]
    simp
  unfold anyN
  rw [tk, hR]
  simp
  constructor
  · rintro ⟨n, h⟩
    have := (any_iter s n i j).1 h
    omega
  · rintro ⟨h1, h2⟩
    exact ⟨j - i, (any_iter s (j - i) i j).2 ⟨by omega, Or.inr h2⟩⟩
/-- found somewhere: taken whole between any bytes -/
theorem finds_between (s : Tx) (x : Nd) : wholeK s (.mk 3 none_ [anyN, x, anyN] 0 0) ↔ someK s x := by
  unfold wholeK someK
  rw [tk]
  simp only [catK]
  constructor
  · intro h
    simp at h
    obtain ⟨a, h1, b, h2, h3⟩ := h
    exact ⟨a, b, ((any_tk s 0 a (Nat.zero_le _)).1 h1).2, h2⟩
  · rintro ⟨a, b, ha, h⟩
    have hb := tk_between s x a b h ha
    simp
    exact ⟨a, (any_tk s 0 a (Nat.zero_le _)).2 ⟨Nat.zero_le _, ha⟩, b, h, (any_tk s b s.length hb.2).2 ⟨hb.2, Nat.le_refl _⟩⟩
/-- one or the other -/
theorem alt_two (s : Tx) (x y : Nd) : wholeK s (.mk 4 none_ [x, y] 0 0) ↔ wholeK s x ∨ wholeK s y := by
  unfold wholeK
  rw [tk]
  simp [altK]

end Go.Proofs.Ytjlihidmohokhaa.Gl

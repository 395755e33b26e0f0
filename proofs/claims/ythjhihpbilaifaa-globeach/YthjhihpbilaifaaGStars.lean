/-
  Matching by the last star alone: what a match with stars comes to, step by step; no conditions.
-/
import Derived.Test.YthjhihpbilaifaaGPlain
namespace Go.Proofs.Ythjhihpbilaifaa.Gl

/-- parts without a star take just these bytes -/
def run : List Part → Tx → Bool
  | [], [] => true
  | q :: A, c :: u => !q.1 && q.2 c.toNat && run A u
  | [], _ :: _ => false
  | _ :: _, [] => false
def fair (q : Part) : Prop := q.2 47 = true → ∀ c, q.2 c = true → c = 47

theorem run_len : ∀ A u, run A u = true → A.length = u.length := by
  intro A
  induction A with
  | nil => intro u h; cases u with
    | nil => rfl
    | cons c u => cases h
  | cons q A ih =>
    intro u h
    cases u with
    | nil => cases h
    | cons c u =>
      simp [run] at h
      simp [ih u h.2]
theorem run_bare : ∀ A u, run A u = true → ∀ q ∈ A, q.1 = false := by
  intro A
  induction A with
  | nil => intro u h q hq; cases hq
  | cons q A ih =>
    intro u h
    cases u with
    | nil => cases h
    | cons c u =>
      simp [run] at h
      intro x hx
      rcases List.mem_cons.1 hx with rfl | hx
      · exact h.1.1
      · exact ih u h.2 x hx
theorem pm_bare : ∀ (A R : List Part) (y : Tx), (∀ q ∈ A, q.1 = false) → pm (A ++ R) y = (run A (y.take A.length) && pm R (y.drop A.length)) := by
  intro A
  induction A with
  | nil => intro R y _; simp [run]
  | cons q A ih =>
    intro R y h
    have hq : q.1 = false := h q (List.mem_cons_self ..)
    cases y with
    | nil => simp [pm, run, hq]
    | cons c y =>
      have := ih R y (fun x hx => h x (List.mem_cons_of_mem _ hx))
      simp [pm, run, hq, this, Bool.and_assoc]
theorem pm_run {A : List Part} {u : Tx} (R : List Part) (v : Tx) (h : run A u = true) : pm (A ++ R) (u ++ v) = pm R v := by
  rw [pm_bare A R _ (run_bare A u h), run_len A u h]
  simp [h]
def slashes (u : Tx) : Nat := u.countP (· == 47)
theorem run_slashes : ∀ A u, run A u = true → (∀ q ∈ A, fair q) → slashes u = A.countP (fun q => q.2 47) := by
  intro A
  induction A with
  | nil => intro u h _; cases u with
    | nil => rfl
    | cons c u => cases h
  | cons q A ih =>
    intro u h hf
    cases u with
    | nil => cases h
    | cons c u =>
      simp [run] at h
      have h1 := ih u h.2 (fun x hx => hf x (List.mem_cons_of_mem _ hx))
      unfold slashes at h1 ⊢
      rw [List.countP_cons, List.countP_cons, h1]
      congr 1
      by_cases hc : c = 47
      · subst hc
        have : q.2 47 = true := h.1.2
        simp [this]
      · have : ¬ q.2 47 = true := fun hh => by
          have h2 := hf q (List.mem_cons_self ..) hh _ h.1.2
          apply hc
          exact UInt8.toNat_inj.1 h2
        simp [this, hc]
theorem starF_iff (g : Tx → Bool) : ∀ x, starF g x = true ↔ ∃ k, k ≤ x.length ∧ slashes (x.take k) = 0 ∧ g (x.drop k) = true := by
  intro x
  induction x with
  | nil =>
    constructor
    · intro h; exact ⟨0, Nat.le_refl _, rfl, h⟩
    · rintro ⟨k, _, _, h⟩; simpa [starF] using h
  | cons c t ih =>
    rw [starF, Bool.or_eq_true, Bool.and_eq_true, ih]
    constructor
    · rintro (h | ⟨hc, k, hk, hs, hg⟩)
      · exact ⟨0, Nat.zero_le _, rfl, h⟩
      · refine ⟨k + 1, by simp; omega, ?_, hg⟩
        have : c ≠ 47 := by simpa using hc
        simp only [slashes, List.take_succ_cons, List.countP_cons] at hs ⊢
        simp [this, hs]
    · rintro ⟨k, hk, hs, hg⟩
      cases k with
      | zero => exact Or.inl hg
      | succ k =>
        right
        simp only [slashes, List.take_succ_cons, List.countP_cons] at hs
        by_cases hc : c = 47
        · simp [hc] at hs
        · refine ⟨by simp [hc], k, by simpa using hk, ?_, hg⟩
          simp [hc] at hs
          simpa [slashes] using hs
theorem slashes_app (a b : Tx) : slashes (a ++ b) = slashes a + slashes b := List.countP_append ..
theorem starF_skip (g : Tx → Bool) (v : Tx) (k : Nat) (hs : slashes (v.take k) = 0) (h : starF g (v.drop k) = true) : starF g v = true := by
  by_cases hk : k ≤ v.length
  · obtain ⟨j, hj, hs2, hg⟩ := (starF_iff g _).1 h
    rw [List.length_drop] at hj
    refine (starF_iff g v).2 ⟨k + j, by omega, ?_, by rw [List.drop_drop] at hg; exact hg⟩
    rw [List.take_add, slashes_app, hs, hs2]
  · rw [List.drop_eq_nil_of_le (by omega)] at h
    rw [List.take_of_length_le (by omega)] at hs
    exact (starF_iff g v).2 ⟨v.length, Nat.le_refl _, by rw [List.take_length]; exact hs, by rw [List.drop_length]; exact h⟩
/-- a star behind the last one takes its place -/
theorem star_next {A : List Part} {u : Tx} (R : List Part) (v : Tx) (h : run A u = true) (hf : ∀ q ∈ A, fair q) : starF (pm (A ++ star :: R)) (u ++ v) = starF (pm R) v := by
  rw [Bool.eq_iff_iff]
  have hl := run_len A u h
  have hb := run_bare A u h
  have hst : ∀ y, pm (star :: R) y = starF (pm R) y := fun y => by simp [pm, star]
  constructor
  · intro hh
    obtain ⟨k, hk, hs, hg⟩ := (starF_iff _ _).1 hh
    rw [pm_bare A _ _ hb, Bool.and_eq_true, hst, List.drop_drop] at hg
    have e1 : (u ++ v).drop (k + A.length) = v.drop k := by
      rw [hl, Nat.add_comm, ← List.drop_drop, List.drop_left]
    rw [e1] at hg
    refine starF_skip _ v k ?_ hg.2
    have h1 := run_slashes _ _ hg.1 hf
    have h2 := run_slashes _ _ h hf
    have e2 : (u ++ v).take k ++ ((u ++ v).drop k).take A.length = u ++ v.take k := by
      rw [← List.take_add, hl, Nat.add_comm, List.take_append, List.take_of_length_le (by omega), show u.length + k - u.length = k by omega]
    have h3 := congrArg slashes e2
    rw [slashes_app, slashes_app, hs, h1, h2] at h3
    omega
  · intro hh
    refine (starF_iff _ _).2 ⟨0, Nat.zero_le _, rfl, ?_⟩
    rw [List.drop_zero, pm_run _ _ h, hst]
    exact hh
theorem star_end {A : List Part} {u : Tx} (R : List Part) (h : run A u = true) : starF (pm (A ++ R)) u = pm R [] := by
  rw [Bool.eq_iff_iff]
  have hl := run_len A u h
  have hb := run_bare A u h
  have h0 := pm_run R [] h
  rw [List.append_nil] at h0
  constructor
  · intro hh
    obtain ⟨k, hk, hs, hg⟩ := (starF_iff _ _).1 hh
    by_cases hk0 : k = 0
    · subst hk0; rw [List.drop_zero, h0] at hg; exact hg
    · rw [pm_bare A _ _ hb, Bool.and_eq_true] at hg
      have := run_len _ _ hg.1
      rw [List.length_take, List.length_drop] at this
      omega
  · intro hh
    exact (starF_iff _ _).2 ⟨0, Nat.zero_le _, rfl, by rw [List.drop_zero, h0]; exact hh⟩

/-- where the match stands -/
def Inv (P : List Part) (s : Tx) (j i : Nat) (z : Int) (t : Nat) : Prop :=
  j ≤ P.length ∧ i ≤ s.length ∧ t ≤ i ∧ ((z = -1 ∧ t = 0 ∧ pm P s = pm (P.drop j) (s.drop i)) ∨ ∃ b A u, z = ((b : Nat) : Int) ∧ b ≤ P.length ∧ P.drop b = A ++ P.drop j ∧ s.drop t = u ++ s.drop i ∧ run A u = true ∧ pm P s = starF (pm (P.drop b)) (s.drop t))
theorem Inv.start (P : List Part) (s : Tx) : Inv P s 0 0 (-1) 0 := ⟨Nat.zero_le _, Nat.zero_le _, Nat.le_refl _, Or.inl ⟨rfl, rfl, rfl⟩⟩
theorem drop_at {α} {P : List α} {j : Nat} {q : α} (h : P[j]? = some q) : P.drop j = q :: P.drop (j + 1) := by
  obtain ⟨hh, e⟩ := List.getElem?_eq_some_iff.1 h
  rw [← e]; exact List.drop_eq_getElem_cons hh
theorem Inv.star {P : List Part} {s : Tx} {j i : Nat} {z : Int} {t : Nat} {f : Bs} (hf : ∀ q ∈ P, fair q) (h : Inv P s j i z t) (hq : P[j]? = some (true, f)) : Inv P s (j + 1) i ((j + 1 : Nat) : Int) i := by
  obtain ⟨h1, h2, h3, h4⟩ := h
  have hj : j < P.length := (List.getElem?_eq_some_iff.1 hq).1
  refine ⟨by omega, h2, Nat.le_refl _, Or.inr ⟨j + 1, [], [], rfl, by omega, rfl, rfl, rfl, ?_⟩⟩
  have hd := drop_at hq
  have hst : ∀ y, pm ((true, f) :: P.drop (j + 1)) y = starF (pm (P.drop (j + 1))) y := fun y => by simp [pm]
  rcases h4 with ⟨_, _, h5⟩ | ⟨b, A, u, _, _, h5, h6, h7, h8⟩
  · rw [h5, hd, hst]
  · rw [h8, h6, h5, hd]
    have hA : ∀ q ∈ A, fair q := fun q hq => hf q (List.mem_of_mem_drop (i := b) (by rw [h5]; exact List.mem_append_left _ hq))
    rw [← star_next (P.drop (j + 1)) (s.drop i) h7 hA]
    have e : ∀ R : List Part, pm (A ++ (true, f) :: R) = pm (A ++ Gl.star :: R) := by
      intro R
      funext y
      rw [pm_bare A _ _ (run_bare A u h7), pm_bare A _ _ (run_bare A u h7)]
      congr 1
    rw [e]
theorem Inv.hit {P : List Part} {s : Tx} {j i : Nat} {z : Int} {t : Nat} {f : Bs} {c : UInt8} (h : Inv P s j i z t) (hq : P[j]? = some (false, f)) (hc : s[i]? = some c) (hf : f c.toNat = true) : Inv P s (j + 1) (i + 1) z t := by
  obtain ⟨h1, h2, h3, h4⟩ := h
  have hj : j < P.length := (List.getElem?_eq_some_iff.1 hq).1
  have hi : i < s.length := (List.getElem?_eq_some_iff.1 hc).1
  have hd := drop_at hq
  have he := drop_at hc
  refine ⟨by omega, by omega, by omega, ?_⟩
  rcases h4 with ⟨hz, ht, h5⟩ | ⟨b, A, u, hz, hb, h5, h6, h7, h8⟩
  · left
    refine ⟨hz, ht, ?_⟩
    rw [h5, hd, he]
    simp [pm, hf]
  · right
    refine ⟨b, A ++ [(false, f)], u ++ [c], hz, hb, by rw [h5, hd]; simp, by rw [h6, he]; simp, ?_, h8⟩
    clear h5 h6 h8
    induction A generalizing u with
    | nil => cases u with
      | nil => simp [run, hf]
      | cons d u => cases h7
    | cons q A ih => cases u with
      | nil => cases h7
      | cons d u =>
        simp [run] at h7
        have := ih u h7.2
        simp [run, h7.1, this]
theorem pm_miss {P : List Part} {s : Tx} {j i : Nat} {c : UInt8} (hc : s[i]? = some c) (hm : j = P.length ∨ ∃ f, P[j]? = some (false, f) ∧ f c.toNat = false) : pm (P.drop j) (s.drop i) = false := by
  rw [drop_at hc]
  rcases hm with rfl | ⟨f, hq, hf⟩
  · rw [List.drop_length]; rfl
  · rw [drop_at hq]; simp [pm, hf]
theorem Inv.fail {P : List Part} {s : Tx} {j i : Nat} {t : Nat} {c : UInt8} (h : Inv P s j i (-1) t) (hc : s[i]? = some c) (hm : j = P.length ∨ ∃ f, P[j]? = some (false, f) ∧ f c.toNat = false) : pm P s = false := by
  obtain ⟨h1, h2, h3, h4⟩ := h
  rcases h4 with ⟨_, _, h5⟩ | ⟨b, A, u, hz, _⟩
  · rw [h5, pm_miss hc hm]
  · omega
theorem Inv.back {P : List Part} {s : Tx} {j i b t : Nat} {c d : UInt8} (h : Inv P s j i (b : Int) t) (hc : s[i]? = some c) (hm : j = P.length ∨ ∃ f, P[j]? = some (false, f) ∧ f c.toNat = false) (hd : s[t]? = some d) :
    (d = 47 → pm P s = false) ∧ (d ≠ 47 → Inv P s b (t + 1) (b : Int) (t + 1)) := by
  obtain ⟨h1, h2, h3, h4⟩ := h
  rcases h4 with ⟨hz, _⟩ | ⟨b', A, u, hz, hb, h5, h6, h7, h8⟩
  · omega
  · have hbb : b' = b := by omega
    subst hbb
    have hm2 := pm_miss hc hm
    have h9 : pm (P.drop b') (s.drop t) = false := by rw [h5, h6, pm_run _ _ h7, hm2]
    have ht : t < s.length := (List.getElem?_eq_some_iff.1 hd).1
    have he := drop_at hd
    have h10 : pm P s = (d != 47 && starF (pm (P.drop b')) (s.drop (t + 1))) := by
      rw [h8, he, starF, ← he, h9, Bool.false_or]
    constructor
    · intro e; rw [h10, e]; rfl
    · intro e
      refine ⟨hb, by omega, Nat.le_refl _, Or.inr ⟨b', [], [], rfl, hb, rfl, rfl, rfl, ?_⟩⟩
      rw [h10]
      simp [e]
theorem Inv.done {P : List Part} {s : Tx} {j i : Nat} {z : Int} {t : Nat} (h : Inv P s j i z t) (hi : i = s.length) : pm P s = pm (P.drop j) [] := by
  obtain ⟨h1, h2, h3, h4⟩ := h
  subst hi
  rw [List.drop_length] at h4
  rcases h4 with ⟨_, _, h5⟩ | ⟨b, A, u, _, _, h5, h6, h7, h8⟩
  · exact h5
  · rw [h8, h6, List.append_nil, h5, star_end _ h7]
theorem Inv.bounds {P : List Part} {s : Tx} {j i : Nat} {z : Int} {t : Nat} (h : Inv P s j i z t) : j ≤ P.length ∧ i ≤ s.length ∧ t ≤ i ∧ (z = -1 ∨ ∃ b : Nat, z = b ∧ b ≤ P.length) := by
  obtain ⟨h1, h2, h3, h4⟩ := h
  refine ⟨h1, h2, h3, ?_⟩
  rcases h4 with ⟨hz, _⟩ | ⟨b, A, u, hz, hb, _⟩
  · exact Or.inl hz
  · exact Or.inr ⟨b, hz, hb⟩
theorem pm_end_star {P : List Part} {j : Nat} {f : Bs} (hq : P[j]? = some (true, f)) : pm (P.drop j) [] = pm (P.drop (j + 1)) [] := by
  rw [drop_at hq]; simp [pm, starF]
theorem pm_end_bare {P : List Part} {j : Nat} {f : Bs} (hq : P[j]? = some (false, f)) : pm (P.drop j) [] = false := by
  rw [drop_at hq]; simp [pm]
theorem pm_end_nil {P : List Part} : pm (P.drop P.length) [] = true := by rw [List.drop_length]; rfl

/-- the parts of a pattern are fair -/
theorem fair_clean (f : Bs) (o : Bool) : fair (false, clean f o) := by intro h; simp [clean] at h
theorem fair_lit (c : UInt8) : fair (lit c) := by
  intro h d hd
  simp [lit, spn] at h hd
  omega
theorem parse_fair : ∀ n op l, ∀ q ∈ parse n op l, fair q := by
  intro n
  induction n with
  | zero => intro op l q hq; cases hq
  | succ n ih =>
    intro op l q hq
    unfold parse at hq
    split at hq
    · cases hq
    split at hq
    · rcases List.mem_cons.1 hq with rfl | hq
      · intro h; cases h
      · exact ih _ _ _ hq
    split at hq
    · rcases List.mem_cons.1 hq with rfl | hq
      · exact fair_clean _ _
      · exact ih _ _ _ hq
    split at hq
    · cases hs : setOf (l.drop 1) with
      | none =>
        rw [hs] at hq
        rcases List.mem_cons.1 hq with rfl | hq
        · exact fair_lit _
        · exact ih _ _ _ hq
      | some r =>
        rw [hs] at hq
        rcases List.mem_cons.1 hq with rfl | hq
        · unfold setOf at hs
          cases hg : setGo true ((l.drop 1).length + 1) true ((l.drop 1).drop (negLen (l.drop 1))) none_ with
          | none => rw [hg] at hs; cases hs
          | some x => rw [hg] at hs; simp at hs; subst hs; exact fair_clean _ _
        · exact ih _ _ _ hq
    · rcases List.mem_cons.1 hq with rfl | hq
      · exact fair_lit _
      · exact ih _ _ _ hq

end Go.Proofs.Ythjhihpbilaifaa.Gl

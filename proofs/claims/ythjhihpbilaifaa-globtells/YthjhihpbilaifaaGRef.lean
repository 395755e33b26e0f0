/-
  The document's own reading of a pattern: a sign behind one without an end; which places of a name a pattern may have come to; no conditions.
-/
import Derived.Test.YthjhihpbilaifaaGPats
namespace Go.Proofs.Ythjhihpbilaifaa.Gl

/-- every ] is escaped or ends a class -/
inductive Shut : Tx → Prop
  | nil : Shut []
  | cls (l : Tx) : isCls l = true → Shut (l.drop 9) → Shut l
  | byte (l : Tx) : l ≠ [] → isCls l = false → l.getD 0 0 ≠ 93 → Shut (l.drop (byteLen true l)) → Shut l
theorem Shut.step {l : Tx} (h : Shut l) (hne : l ≠ []) (hc : isCls l = false) : l.getD 0 0 ≠ 93 ∧ Shut (l.drop (byteLen true l)) := by
  cases h with
  | nil => exact absurd rfl hne
  | cls _ h1 _ => rw [hc] at h1; cases h1
  | byte _ _ _ h2 h3 => exact ⟨h2, h3⟩
theorem Shut.class {l : Tx} (h : Shut l) (hc : isCls l = true) : Shut (l.drop 9) := by
  cases h with
  | nil => cases hc
  | cls _ _ h2 => exact h2
  | byte _ _ h1 _ _ => rw [hc] at h1; cases h1
theorem byteLen_of {l : Tx} (h : l.getD 0 0 ≠ 92) : byteLen true l = 1 := by
  unfold byteLen esc
  simp only [List.getD_eq_getElem?_getD] at h ⊢
  simp [h]
/-- a row of bytes, byte by byte -/
theorem Shut.of_item {l : Tx} (hne : l ≠ []) (h1 : isCls l = true ∨ l.getD 0 0 ≠ 93) (h : Shut (l.drop (itemLen true l))) : Shut l := by
  cases hc : isCls l with
  | true =>
    unfold itemLen at h
    rw [hc] at h
    exact Shut.cls l hc h
  | false =>
    have h93 : l.getD 0 0 ≠ 93 := by
      rcases h1 with h1 | h1
      · rw [hc] at h1; cases h1
      · exact h1
    refine Shut.byte l hne hc h93 ?_
    unfold itemLen at h
    rw [hc] at h
    simp only [Bool.false_eq_true, if_false] at h
    cases hd : isDash (l.drop (byteLen true l)) with
    | false => rw [hd] at h; exact h
    | true =>
      rw [hd] at h
      simp only [if_true] at h
      have hd2 := hd
      unfold isDash at hd2
      simp only [Bool.and_eq_true, decide_eq_true_eq, beq_iff_eq, bne_iff_ne, Bool.not_eq_true', List.length_drop] at hd2
      obtain ⟨⟨⟨q1, q2⟩, q3⟩, q4⟩ := hd2
      have hn1 : l.drop (byteLen true l) ≠ [] := drop_ne (by omega)
      have hn2 : l.drop (byteLen true l + 1) ≠ [] := drop_ne (by omega)
      refine Shut.byte _ hn1 (isCls_head (by rw [q2]; decide)) (by rw [q2]; decide) ?_
      rw [byteLen_of (by rw [q2]; decide), List.drop_drop]
      rw [List.drop_drop] at q4
      refine Shut.byte _ hn2 q4 (by rw [drop_getD] at q3 ⊢; exact q3) ?_
      rw [List.drop_drop]
      exact h
/-- a set without an end -/
theorem shut_of_open : ∀ n l s, l.length < n → setGo true n false l s = none → Shut l := by
  intro n
  induction n with
  | zero => intro l s h; omega
  | succ n ih =>
    intro l s hl h
    by_cases hne : l = []
    · subst hne; exact Shut.nil
    · rw [setGo, if_neg hne] at h
      split at h
      · cases h
      · rename_i h93
        have hil := itemLen_le true hne
        have hip := itemLen_pos true l
        have h2 : setGo true n false (l.drop (itemLen true l)) (both s (itemSet true l)) = none := by
          cases hr : setGo true n false (l.drop (itemLen true l)) (both s (itemSet true l)) with
          | none => rfl
          | some r => rw [hr] at h; cases h
        have h3 := ih _ _ (by rw [List.length_drop]; omega) h2
        exact Shut.of_item hne (Or.inr (fun e => h93 ⟨e, rfl⟩)) h3
theorem open_of_shut : ∀ n l s f, l.length < n → Shut l → setGo true n f l s = none := by
  intro n
  induction n with
  | zero => intro l s f h; omega
  | succ n ih =>
    intro l s f hl h
    by_cases hne : l = []
    · subst hne; simp [setGo]
    · have h93 : ¬ (l.getD 0 0 = 93 ∧ f = false) := by
        rintro ⟨e, _⟩
        cases hc : isCls l with
        | true =>
          obtain ⟨a, b, c, d, e', r, rfl, _⟩ := isCls_split hc
          simp at e
        | false => exact (h.step hne hc).1 e
      rw [setGo, if_neg hne, if_neg h93]
      have hil := itemLen_le true hne
      have hip := itemLen_pos true l
      have h3 : Shut (l.drop (itemLen true l)) := by
        cases hc : isCls l with
        | true => unfold itemLen; rw [hc]; exact h.class hc
        | false =>
          have h4 := (h.step hne hc).2
          unfold itemLen
          rw [hc]
          simp only [Bool.false_eq_true, if_false]
          cases hd : isDash (l.drop (byteLen true l)) with
          | false => exact h4
          | true =>
            simp only [if_true]
            have hd2 := hd
            unfold isDash at hd2
            simp only [Bool.and_eq_true, decide_eq_true_eq, beq_iff_eq, bne_iff_ne, Bool.not_eq_true', List.length_drop] at hd2
            obtain ⟨⟨⟨q1, q2⟩, q3⟩, q4⟩ := hd2
            have hn1 : l.drop (byteLen true l) ≠ [] := drop_ne (by omega)
            have hn2 : l.drop (byteLen true l + 1) ≠ [] := drop_ne (by omega)
            have h5 := (h4.step hn1 (isCls_head (by rw [q2]; decide))).2
            rw [byteLen_of (by rw [q2]; decide), List.drop_drop] at h5
            rw [List.drop_drop] at q4
            have h6 := (h5.step hn2 q4).2
            rw [List.drop_drop] at h6
            exact h6
      rw [ih _ _ _ (by rw [List.length_drop]; omega) h3]
      rfl
/-- what stands behind a [ without an end -/
def Shut1 (l : Tx) : Prop := Shut l ∨ (l.getD 0 0 = 93 ∧ Shut (l.drop 1))
def Shut2 (l : Tx) : Prop := Shut1 l ∨ (neg l = true ∧ Shut1 (l.drop 1))
theorem shut1_of_open {n : Nat} {l : Tx} {s : Bs} (hl : l.length < n) (h : setGo true n true l s = none) : Shut1 l := by
  cases n with
  | zero => omega
  | succ n =>
    by_cases hne : l = []
    · subst hne; exact Or.inl Shut.nil
    · rw [setGo, if_neg hne, if_neg (by simp)] at h
      have hil := itemLen_le true hne
      have hip := itemLen_pos true l
      have h2 : setGo true n false (l.drop (itemLen true l)) (both s (itemSet true l)) = none := by
        cases hr : setGo true n false (l.drop (itemLen true l)) (both s (itemSet true l)) with
        | none => rfl
        | some r => rw [hr] at h; cases h
      have h3 := shut_of_open _ _ _ (by rw [List.length_drop]; omega) h2
      by_cases h93 : l.getD 0 0 = 93
      · right
        refine ⟨h93, ?_⟩
        have hc : isCls l = false := isCls_head (by rw [h93]; decide)
        have hb : byteLen true l = 1 := byteLen_of (by rw [h93]; decide)
        unfold itemLen at h3
        rw [hc, hb] at h3
        simp only [Bool.false_eq_true, if_false] at h3
        cases hd : isDash (l.drop 1) with
        | false => rw [hd] at h3; exact h3
        | true =>
          rw [hd] at h3
          simp only [if_true] at h3
          have hd2 := hd
          unfold isDash at hd2
          simp only [Bool.and_eq_true, decide_eq_true_eq, beq_iff_eq, bne_iff_ne, Bool.not_eq_true', List.length_drop] at hd2
          obtain ⟨⟨⟨q1, q2⟩, q3⟩, q4⟩ := hd2
          refine Shut.byte _ (drop_ne (by omega)) (isCls_head (by rw [q2]; decide)) (by rw [q2]; decide) ?_
          rw [byteLen_of (by rw [q2]; decide), List.drop_drop]
          rw [List.drop_drop] at q4
          refine Shut.byte _ (drop_ne (by omega)) q4 (by rw [drop_getD] at q3 ⊢; exact q3) ?_
          rw [List.drop_drop]
          exact h3
      · exact Or.inl (Shut.of_item hne (Or.inr h93) h3)
theorem shut2_of_none {l : Tx} (h : setOf l = none) : Shut2 l := by
  have h2 : setGo true (l.length + 1) true (l.drop (negLen l)) none_ = none := by
    unfold setOf at h
    cases hr : setGo true (l.length + 1) true (l.drop (negLen l)) none_ with
    | none => rfl
    | some r => rw [hr] at h; cases h
  have h3 := shut1_of_open (by rw [List.length_drop]; omega) h2
  unfold negLen at h3
  cases hn : neg l with
  | false => rw [hn] at h3; exact Or.inl h3
  | true => rw [hn] at h3; exact Or.inr ⟨hn, h3⟩
theorem none_of_shut {l : Tx} (h : Shut l) : setOf l = none := by
  unfold setOf
  have h2 : Shut (l.drop (negLen l)) := by
    unfold negLen
    cases hn : neg l with
    | false => exact h
    | true =>
      unfold neg at hn
      simp only [Bool.and_eq_true, decide_eq_true_eq, Bool.or_eq_true, beq_iff_eq] at hn
      have hne : l ≠ [] := fun e => by subst e; simp at hn
      have h91 : l.getD 0 0 ≠ 91 := by rcases hn.2 with e | e <;> rw [e] <;> decide
      have h92 : l.getD 0 0 ≠ 92 := by rcases hn.2 with e | e <;> rw [e] <;> decide
      have := (h.step hne (isCls_head h91)).2
      rw [byteLen_of h92] at this
      exact this
  rw [open_of_shut _ _ _ _ (by rw [List.length_drop]; omega) h2]
  rfl
theorem plain_item {a b : UInt8} (r : Tx) (h1 : a ≠ 91) (h2 : a ≠ 92) (h3 : b ≠ 45) : itemLen true (a :: b :: r) = 1 := by
  unfold itemLen
  rw [isCls_cons _ h1, (byte_plain _ h2).1]
  simp [isDash, h3]
theorem setGo_plain {a b : UInt8} (r : Tx) (f : Bool) (n : Nat) (s : Bs) (h1 : a ≠ 91) (h2 : a ≠ 92) (h3 : b ≠ 45) (h4 : a ≠ 93) :
    setGo true (n + 1) f (a :: b :: r) s = (setGo true n false (b :: r) (both s (itemSet true (a :: b :: r)))).map fun x => (x.1, x.2 + 1) := by
  rw [setGo, if_neg (by simp), if_neg (by simp [h4]), plain_item r h1 h2 h3]
  rfl
/-- a class's own signs are a set -/
theorem setOf_class {a b c d e : UInt8} (r : Tx) (ha : a ≠ 91 ∧ a ≠ 92 ∧ a ≠ 45 ∧ a ≠ 93) (hb : b ≠ 91 ∧ b ≠ 92 ∧ b ≠ 45 ∧ b ≠ 93) (hc : c ≠ 91 ∧ c ≠ 92 ∧ c ≠ 45 ∧ c ≠ 93) (hd : d ≠ 91 ∧ d ≠ 92 ∧ d ≠ 45 ∧ d ≠ 93) (he : e ≠ 91 ∧ e ≠ 92 ∧ e ≠ 45 ∧ e ≠ 93) :
    ∃ f, setOf (58 :: a :: b :: c :: d :: e :: 58 :: 93 :: r) = some (f, 8) := by
  have hn : neg (58 :: a :: b :: c :: d :: e :: 58 :: 93 :: r) = false := by simp [neg]
  unfold setOf negLen
  rw [hn]
  simp only [Bool.false_eq_true, if_false, List.drop_zero, List.length_cons]
  rw [setGo_plain _ _ _ _ (by decide) (by decide) ha.2.2.1 (by decide), setGo_plain _ _ _ _ ha.1 ha.2.1 hb.2.2.1 ha.2.2.2, setGo_plain _ _ _ _ hb.1 hb.2.1 hc.2.2.1 hb.2.2.2, setGo_plain _ _ _ _ hc.1 hc.2.1 hd.2.2.1 hc.2.2.2, setGo_plain _ _ _ _ hd.1 hd.2.1 he.2.2.1 hd.2.2.2, setGo_plain _ _ _ _ he.1 he.2.1 (by decide) he.2.2.2, setGo_plain _ _ _ _ (by decide) (by decide) (by decide) (by decide)]
  rw [setGo, if_neg (by simp), if_pos ⟨rfl, rfl⟩]
  exact ⟨_, rfl⟩
theorem class_shut {l : Tx} (h : isCls l = true) : ∃ f, setOf (l.drop 1) = some (f, 8) := by
  obtain ⟨a, b, c, d, e, r, rfl, hk⟩ := isCls_split h
  simp only [List.drop_succ_cons, List.drop_zero]
  apply setOf_class
  all_goals
    simp only [List.take_succ_cons, List.take_zero, tAlpha, tDigit, tUpper, tLower, tAlnum, tSpace, List.cons.injEq] at hk
    rcases hk with hk | hk | hk | hk | hk | hk <;> (obtain ⟨_, _, rfl, rfl, rfl, rfl, rfl, _⟩ := hk; decide)

/-- the document's reading -/
def parseR : Nat → Tx → List Part
  | 0, _ => []
  | n + 1, l =>
    if l = [] then [] else if l.getD 0 0 = 42 then star :: parseR n (l.drop 1)
    else if l.getD 0 0 = 63 then anyB :: parseR n (l.drop 1)
    else if l.getD 0 0 = 91 then
      match setOf (l.drop 1) with
      | some r => (false, r.1) :: parseR n (l.drop (r.2 + 1))
      | none => lit (byteVal true l) :: parseR n (l.drop (byteLen true l))
    else lit (byteVal true l) :: parseR n (l.drop (byteLen true l))
theorem Shut1.of2 {l : Tx} (h : Shut l) : Shut2 l := Or.inl (Or.inl h)
theorem shut2_step {l : Tx} (h : Shut2 l) (hne : l ≠ []) (hc : isCls l = false) : Shut2 (l.drop (byteLen true l)) := by
  rcases h with (h | ⟨h, h2⟩) | ⟨h, h2⟩
  · exact Shut1.of2 (h.step hne hc).2
  · rw [byteLen_of (by rw [h]; decide)]; exact Shut1.of2 h2
  · unfold neg at h
    simp only [Bool.and_eq_true, decide_eq_true_eq, Bool.or_eq_true, beq_iff_eq] at h
    rw [byteLen_of (by rcases h.2 with e | e <;> rw [e] <;> decide)]
    exact Or.inl h2
theorem shut2_bracket {l : Tx} (h : Shut2 l) (h91 : l.getD 0 0 = 91) : Shut l := by
  rcases h with (h | ⟨h, _⟩) | ⟨h, _⟩
  · exact h
  · rw [h91] at h; exact absurd h (by decide)
  · unfold neg at h
    simp only [Bool.and_eq_true, decide_eq_true_eq, Bool.or_eq_true, beq_iff_eq, h91] at h
    exact absurd h.2 (by decide)
theorem parse_as : ∀ n l, (parse n false l = parseR n l) ∧ (Shut2 l → parse n true l = parseR n l) := by
  intro n
  induction n with
  | zero => intro l; exact ⟨rfl, fun _ => rfl⟩
  | succ n ih =>
    intro l
    by_cases hne : l = []
    · subst hne; exact ⟨by simp [parse, parseR], fun _ => by simp [parse, parseR]⟩
    by_cases e1 : l.getD 0 0 = 42
    · refine ⟨by rw [parse, parseR, if_neg hne, if_neg hne, if_pos e1, if_pos e1, (ih _).1], fun h => ?_⟩
      rw [parse, parseR, if_neg hne, if_neg hne, if_pos e1, if_pos e1, (ih _).2]
      have := shut2_step h hne (isCls_head (by rw [e1]; decide))
      rw [byteLen_of (by rw [e1]; decide)] at this
      exact this
    by_cases e2 : l.getD 0 0 = 63
    · refine ⟨by rw [parse, parseR, if_neg hne, if_neg hne, if_neg e1, if_neg e1, if_pos e2, if_pos e2, (ih _).1], fun h => ?_⟩
      rw [parse, parseR, if_neg hne, if_neg hne, if_neg e1, if_neg e1, if_pos e2, if_pos e2, (ih _).2]
      have := shut2_step h hne (isCls_head (by rw [e2]; decide))
      rw [byteLen_of (by rw [e2]; decide)] at this
      exact this
    by_cases e3 : l.getD 0 0 = 91
    · have hb1 : byteLen true l = 1 := byteLen_of (by rw [e3]; decide)
      constructor
      · rw [parse, parseR, if_neg hne, if_neg hne, if_neg e1, if_neg e1, if_neg e2, if_neg e2, if_pos ⟨e3, rfl⟩, if_pos e3]
        cases hs : setOf (l.drop 1) with
        | some r => simp only []; rw [(ih _).1]
        | none =>
          simp only []
          rw [(ih _).2]
          rw [hb1]
          exact shut2_of_none hs
      · intro h
        have hsh := shut2_bracket h e3
        cases hc : isCls l with
        | true =>
          obtain ⟨f, hf⟩ := class_shut hc
          rw [parse, parseR, if_neg hne, if_neg hne, if_neg e1, if_neg e1, if_neg e2, if_neg e2, if_pos ⟨e3, by rw [hc]; rfl⟩, if_pos e3, hf]
          simp only []
          rw [(ih _).2 (Shut1.of2 (hsh.class hc))]
        | false =>
          have h2 := (hsh.step hne hc).2
          rw [parse, parseR, if_neg hne, if_neg hne, if_neg e1, if_neg e1, if_neg e2, if_neg e2, if_neg (by rw [hc]; simp), if_pos e3]
          rw [hb1] at h2
          rw [none_of_shut h2]
          simp only []
          rw [(ih _).2]
          rw [hb1]
          exact Shut1.of2 h2
    · refine ⟨by rw [parse, parseR, if_neg hne, if_neg hne, if_neg e1, if_neg e1, if_neg e2, if_neg e2, if_neg (fun h => e3 h.1), if_neg e3, (ih _).1], fun h => ?_⟩
      rw [parse, parseR, if_neg hne, if_neg hne, if_neg e1, if_neg e1, if_neg e2, if_neg e2, if_neg (fun h => e3 h.1), if_neg e3, (ih _).2]
      exact shut2_step h hne (isCls_head e3)
theorem parts_ref (p : Tx) : parts p = parseR p.length p := (parse_as _ _).1

/-! places -/
/-- where a star may come to -/
def sR (s : Tx) (H : Bs) : Bs
  | 0 => H 0
  | k + 1 => H (k + 1) || (sR s H k && s.getD k 0 != 47)
def bR (s : Tx) (f : Bs) (H : Bs) : Bs
  | 0 => false
  | k + 1 => H k && f (s.getD k 0).toNat
theorem sR_iff (s : Tx) (H : Bs) : ∀ j, j ≤ s.length → (sR s H j = true ↔ ∃ i, i ≤ j ∧ H i = true ∧ slashes ((s.drop i).take (j - i)) = 0) := by
  intro j
  induction j with
  | zero =>
    intro _
    constructor
    · intro h; exact ⟨0, Nat.le_refl _, h, rfl⟩
    · rintro ⟨i, hi, h, _⟩
      obtain rfl : i = 0 := by omega
      exact h
  | succ j ih =>
    intro hj
    have hlt : j < s.length := by omega
    have hc : s[j]? = some s[j] := List.getElem?_eq_getElem hlt
    have hg : s.getD j 0 = s[j] := by rw [List.getD_eq_getElem?_getD, hc]; rfl
    rw [sR, Bool.or_eq_true, Bool.and_eq_true, ih (by omega), hg]
    have step : ∀ i, i ≤ j → slashes ((s.drop i).take (j + 1 - i)) = slashes ((s.drop i).take (j - i)) + (if s[j] = 47 then 1 else 0) := by
      intro i hi
      rw [show j + 1 - i = (j - i) + 1 by omega]
      exact slashes_snoc _ _ _ (by rw [List.getElem?_drop, show i + (j - i) = j by omega]; exact hc)
    constructor
    · rintro (h | ⟨⟨i, hi, h1, h2⟩, h3⟩)
      · exact ⟨j + 1, Nat.le_refl _, h, by rw [Nat.sub_self]; rfl⟩
      · refine ⟨i, by omega, h1, ?_⟩
        have h4 : ¬ s[j] = 47 := by simpa using h3
        rw [step i hi, h2, if_neg h4]
    · rintro ⟨i, hi, h1, h2⟩
      by_cases hij : i = j + 1
      · subst hij; exact Or.inl h1
      · right
        rw [step i (by omega)] at h2
        by_cases h4 : s[j] = 47
        · rw [if_pos h4] at h2; omega
        · exact ⟨⟨i, by omega, h1, by omega⟩, by simpa using h4⟩
/-- may the rest be taken from one of the places -/
def From (s : Tx) (H : Bs) (P : List Part) : Prop := ∃ k, k ≤ s.length ∧ H k = true ∧ pm P (s.drop k) = true
theorem from_star (s : Tx) (H : Bs) (P : List Part) (f : Bs) : From s H ((true, f) :: P) ↔ From s (sR s H) P := by
  have e : ∀ y, pm ((true, f) :: P) y = starF (pm P) y := fun y => by simp [pm]
  constructor
  · rintro ⟨k, hk, h1, h2⟩
    rw [e, starF_iff] at h2
    obtain ⟨m, hm, h3, h4⟩ := h2
    rw [List.length_drop] at hm
    refine ⟨k + m, by omega, (sR_iff s H _ (by omega)).2 ⟨k, by omega, h1, by rw [show k + m - k = m by omega]; exact h3⟩, by rw [← List.drop_drop]; exact h4⟩
  · rintro ⟨j, hj, h1, h2⟩
    obtain ⟨i, hi, h3, h4⟩ := (sR_iff s H j hj).1 h1
    refine ⟨i, by omega, h3, ?_⟩
    rw [e, starF_iff]
    exact ⟨j - i, by rw [List.length_drop]; omega, h4, by rw [List.drop_drop, show i + (j - i) = j by omega]; exact h2⟩
theorem from_byte (s : Tx) (H : Bs) (P : List Part) (f : Bs) : From s H ((false, f) :: P) ↔ From s (bR s f H) P := by
  constructor
  · rintro ⟨k, hk, h1, h2⟩
    by_cases hlt : k < s.length
    · have hc : s[k]? = some s[k] := List.getElem?_eq_getElem hlt
      rw [drop_at hc] at h2
      simp only [pm, Bool.false_eq_true, if_false, Bool.and_eq_true] at h2
      refine ⟨k + 1, by omega, ?_, h2.2⟩
      have hg : s.getD k 0 = s[k] := by rw [List.getD_eq_getElem?_getD, hc]; rfl
      rw [bR, h1, hg, h2.1]; rfl
    · rw [List.drop_eq_nil_of_le (by omega)] at h2
      simp [pm] at h2
  · rintro ⟨k, hk, h1, h2⟩
    cases k with
    | zero => cases h1
    | succ k =>
      have hlt : k < s.length := by omega
      have hc : s[k]? = some s[k] := List.getElem?_eq_getElem hlt
      have hg : s.getD k 0 = s[k] := by rw [List.getD_eq_getElem?_getD, hc]; rfl
      rw [bR, Bool.and_eq_true, hg] at h1
      refine ⟨k, by omega, h1.1, ?_⟩
      rw [drop_at hc]
      simp only [pm, Bool.false_eq_true, if_false, h1.2, h2, Bool.and_self]
theorem from_nil (s : Tx) (H : Bs) : From s H [] ↔ H s.length = true := by
  constructor
  · rintro ⟨k, hk, h1, h2⟩
    have : s.drop k = [] := by simpa [pm] using h2
    have hk2 : k = s.length := by
      have := congrArg List.length this
      rw [List.length_drop] at this
      simp at this
      omega
    rw [← hk2]; exact h1
  · intro h
    exact ⟨s.length, Nat.le_refl _, h, by rw [List.drop_length]; rfl⟩
def start : Bs := fun k => k == 0
theorem from_start (s : Tx) (P : List Part) : From s start P ↔ pm P s = true := by
  constructor
  · rintro ⟨k, hk, h1, h2⟩
    obtain rfl : k = 0 := by simpa [start] using h1
    exact h2
  · intro h; exact ⟨0, Nat.zero_le _, rfl, h⟩

end Go.Proofs.Ythjhihpbilaifaa.Gl

/-
  What patterns of some shapes match: escaped bytes, stars between and around, sets, two with a sign between; no conditions.
-/
import Derived.Test.YthjhihpbilaifaaGStars
namespace Go.Proofs.Ythjhihpbilaifaa.Gl

theorem parts_nil : parts [] = [] := rfl
theorem parts_star (t : Tx) : parts (42 :: t) = star :: parts t := by
  unfold parts
  rw [List.length_cons, parse, if_neg (by simp), if_pos (show (42 :: t).getD 0 0 = 42 from rfl)]
  rfl
theorem parts_any (t : Tx) : parts (63 :: t) = anyB :: parts t := by
  unfold parts
  rw [List.length_cons, parse, if_neg (by simp), if_neg (show ¬ (63 :: t).getD 0 0 = 42 by simp), if_pos (show (63 :: t).getD 0 0 = 63 from rfl)]
  rfl
theorem byte_esc (c : UInt8) (t : Tx) : byteLen true (92 :: c :: t) = 2 ∧ byteVal true (92 :: c :: t) = c := by
  have : esc true (92 :: c :: t) = true := by simp [esc]
  simp [byteLen, byteVal, this]
theorem byte_plain {c : UInt8} (t : Tx) (h : c ≠ 92) : byteLen true (c :: t) = 1 ∧ byteVal true (c :: t) = c := by
  have : esc true (c :: t) = false := by simp [esc, h]
  simp [byteLen, byteVal, this]
theorem parts_esc (c : UInt8) (t : Tx) : parts (92 :: c :: t) = lit c :: parts t := by
  unfold parts
  rw [List.length_cons, parse, if_neg (by simp), if_neg (by simp), if_neg (by simp), if_neg (by simp), (byte_esc c t).1, (byte_esc c t).2]
  rw [show (92 :: c :: t).drop 2 = t from rfl, List.length_cons, parse_fuel (t.length + 1) t.length false t (by omega) (Nat.le_refl _)]
theorem parts_lit {c : UInt8} (t : Tx) (h1 : c ≠ 42) (h2 : c ≠ 63) (h3 : c ≠ 91) (h4 : c ≠ 92) : parts (c :: t) = lit c :: parts t := by
  unfold parts
  rw [List.length_cons, parse, if_neg (by simp), if_neg (by simpa using h1), if_neg (by simpa using h2), if_neg (by simp [h3]), (byte_plain t h4).1, (byte_plain t h4).2]
  rfl

/-- a text with each byte escaped -/
def escd : Tx → Tx
  | [] => []
  | c :: t => 92 :: c :: escd t
theorem escd_len (l : Tx) : (escd l).length = 2 * l.length := by
  induction l with
  | nil => rfl
  | cons c t ih => simp [escd, ih]; omega
theorem escd_snoc (l : Tx) (c : UInt8) : escd (l ++ [c]) = escd l ++ [92] ++ [c] := by
  induction l with
  | nil => rfl
  | cons d t ih => simp [escd, ih]
theorem parts_escd (l r : Tx) : parts (escd l ++ r) = l.map lit ++ parts r := by
  induction l with
  | nil => rfl
  | cons c t ih => simp only [escd, List.cons_append, parts_esc, ih, List.map_cons]
theorem run_lits (l : Tx) : ∀ u, run (l.map lit) u = decide (l = u) := by
  induction l with
  | nil => intro u; cases u <;> simp [run]
  | cons c t ih =>
    intro u
    cases u with
    | nil => simp [run]
    | cons d u =>
      rw [List.map_cons, run, ih]
      have : (lit c).2 d.toNat = decide (c = d) := by
        simp only [lit, spn]
        rw [Bool.eq_iff_iff]
        simp
        constructor
        · rintro ⟨h1, h2⟩; exact UInt8.toNat_inj.1 (by omega)
        · rintro rfl; exact ⟨Nat.le_refl _, Nat.le_refl _⟩
      rw [this, show (lit c).1 = false from rfl]
      rw [Bool.eq_iff_iff]
      simp
theorem lits_bare (l : Tx) : ∀ q ∈ l.map lit, q.1 = false := by
  intro q hq
  obtain ⟨c, _, rfl⟩ := List.mem_map.1 hq
  rfl
theorem pm_lits (l : Tx) (R : List Part) (s : Tx) : pm (l.map lit ++ R) s = (decide (l = s.take l.length) && pm R (s.drop l.length)) := by
  rw [pm_bare _ _ _ (lits_bare l), run_lits, List.length_map]
theorem pm_star (R : List Part) (s : Tx) : pm (star :: R) s = starF (pm R) s := by simp [pm, star]
theorem pm_last (s : Tx) : pm [star] s = (slashes s == 0) := by
  rw [pm_star, Bool.eq_iff_iff, starF_iff]
  constructor
  · rintro ⟨k, hk, hs, hg⟩
    have : s.drop k = [] := by simpa [pm] using hg
    have h2 : s.take k = s := by
      have := List.take_append_drop k s
      rw [‹s.drop k = []›, List.append_nil] at this
      exact this
    rw [h2] at hs
    simp [hs]
  · intro h
    exact ⟨s.length, Nat.le_refl _, by rw [List.take_length]; simpa using h, by rw [List.drop_length]; rfl⟩
theorem hits_escd (l s : Tx) : hits (escd l) s = decide (l = s) := by
  unfold hits
  have := parts_escd l []
  rw [List.append_nil, parts_nil] at this
  rw [this, pm_lits]
  rw [Bool.eq_iff_iff]
  simp [pm]
  constructor
  · rintro ⟨h1, h2⟩
    rw [h1, List.take_of_length_le h2]
  · rintro rfl
    simp

/-! ends -/
theorem hits_ends (e s : Tx) : hits (42 :: escd e) s = (decide (e.length ≤ s.length) && decide (s.drop (s.length - e.length) = e) && (slashes (s.take (s.length - e.length)) == 0)) := by
  unfold hits
  have h1 := parts_escd e []
  rw [List.append_nil, parts_nil] at h1
  rw [parts_star, h1, pm_star, Bool.eq_iff_iff, starF_iff]
  constructor
  · rintro ⟨k, hk, hs, hg⟩
    rw [pm_lits] at hg
    simp [pm] at hg
    have he : e = s.drop k := by
      rw [hg.1, List.take_of_length_le]
      rw [List.length_drop]; omega
    have hkl : s.length - e.length = k := by rw [he, List.length_drop]; omega
    rw [hkl]
    simp [← he, hs]
    rw [he, List.length_drop]; omega
  · intro h
    simp at h
    refine ⟨s.length - e.length, by omega, h.2, ?_⟩
    rw [pm_lits]
    simp only [h.1.2]
    simp [pm]
theorem hits_begins (e s : Tx) : hits (escd e ++ [42]) s = (decide (e.length ≤ s.length) && decide (s.take e.length = e) && (slashes (s.drop e.length) == 0)) := by
  unfold hits
  rw [parts_escd, parts_star, parts_nil, pm_lits, pm_last, Bool.eq_iff_iff]
  simp
  intro _
  constructor
  · intro h
    refine ⟨?_, h.symm⟩
    rw [h, List.length_take]; omega
  · rintro ⟨_, h⟩; exact h.symm
theorem slashes_snoc (s : Tx) (i : Nat) (c : UInt8) (h : s[i]? = some c) : slashes (s.take (i + 1)) = slashes (s.take i) + (if c = 47 then 1 else 0) := by
  rw [List.take_add_one, h, slashes_app]
  congr 1
  by_cases hc : c = 47 <;> simp [slashes, hc]

/-! stars between -/
def ilv : Tx → List Part
  | [] => []
  | c :: t => star :: lit c :: ilv t
/-- a text with each byte escaped and a star ahead of it -/
def stard : Tx → Tx
  | [] => []
  | c :: t => 42 :: 92 :: c :: stard t
theorem stard_len (l : Tx) : (stard l).length = 3 * l.length := by
  induction l with
  | nil => rfl
  | cons c t ih => simp [stard, ih]; omega
theorem stard_snoc (l : Tx) (c : UInt8) : stard (l ++ [c]) = stard l ++ [42] ++ [92] ++ [c] := by
  induction l with
  | nil => rfl
  | cons d t ih => simp [stard, ih]
theorem parts_stard (l r : Tx) : parts (stard l ++ r) = ilv l ++ parts r := by
  induction l with
  | nil => rfl
  | cons c t ih => simp only [stard, List.cons_append, parts_star, parts_esc, ih, ilv]
theorem lit_takes (a c : UInt8) (R : List Part) (y : Tx) : pm (lit a :: R) (c :: y) = (decide (a = c) && pm R y) := by
  have := pm_lits [a] R (c :: y)
  simpa using this
theorem hits_self (l : Tx) : hits (stard l ++ [42]) l = true := by
  unfold hits
  rw [parts_stard, parts_star, parts_nil]
  induction l with
  | nil => rfl
  | cons c t ih =>
    simp only [ilv, List.cons_append]
    rw [pm_star, starF, lit_takes]
    simp [ih]
/-- what is left of a text when another is gone through -/
def gr : Tx → Tx → Tx
  | [], _ => []
  | a :: n, [] => a :: n
  | a :: n, c :: o => if c = a then gr n o else gr (a :: n) o
theorem gr_nil (o : Tx) : gr [] o = [] := by cases o <;> rfl
theorem gr_less : ∀ o a n, gr (a :: n) o = [] → gr n o = [] := by
  intro o
  induction o with
  | nil => intro a n h; cases h
  | cons c o ih =>
    have more : ∀ n, gr n o = [] → gr n (c :: o) = [] := by
      intro n h
      cases n with
      | nil => rfl
      | cons b n =>
        rw [gr]
        split
        · exact ih b n h
        · exact h
    intro a n h
    rw [gr] at h
    split at h
    · exact more n h
    · exact more n (ih a n h)
theorem pm_ilv : ∀ (o n : Tx), slashes n = 0 → pm (ilv n ++ [star]) o = (slashes o == 0 && (gr n o).isEmpty) := by
  intro o
  induction o with
  | nil =>
    intro n _
    cases n with
    | nil => rfl
    | cons a n => simp [ilv, pm, star, starF, lit, gr]
  | cons c o ih =>
    intro n hn
    cases n with
    | nil => simp only [ilv, List.nil_append, pm_last, gr, List.isEmpty_nil, Bool.and_true]
    | cons a n =>
      have ha : a ≠ 47 := by
        intro e; subst e; simp [slashes] at hn
      have hn2 : slashes n = 0 := by simpa [slashes, ha] using hn
      have h1 := ih n hn2
      have h2 := ih (a :: n) hn
      simp only [ilv, List.cons_append] at h2 ⊢
      rw [pm_star] at h2 ⊢
      rw [starF, lit_takes, h1, h2, gr]
      by_cases hc : c = a
      · subst hc
        have hs : slashes (c :: o) = slashes o := by simp [slashes, ha]
        rw [hs, if_pos rfl]
        have := gr_less o c n
        cases hg : gr (c :: n) o with
        | nil => simp [this hg, ha]
        | cons x y => simp
      · rw [if_neg hc]
        have : ¬ a = c := fun e => hc e.symm
        by_cases h47 : c = 47
        · subst h47
          simp [this, slashes]
        · simp [this, h47, slashes]
theorem hits_stard (n o : Tx) (h : slashes n = 0) : hits (stard n ++ [42]) o = (slashes o == 0 && (gr n o).isEmpty) := by
  unfold hits
  rw [parts_stard, parts_star, parts_nil]
  exact pm_ilv o n h
theorem gr_app (n a b : Tx) : gr n (a ++ b) = gr (gr n a) b := by
  induction a generalizing n with
  | nil => cases n <;> simp [gr]
  | cons c a ih =>
    cases n with
    | nil => simp [gr, gr_nil]
    | cons x n =>
      simp only [List.cons_append, gr]
      split
      · exact ih n
      · exact ih (x :: n)
/-- what is left is the text's end -/
theorem gr_end : ∀ (o n : Tx), ∃ k, k ≤ n.length ∧ gr n o = n.drop k := by
  intro o
  induction o with
  | nil => intro n; exact ⟨0, Nat.zero_le _, by cases n <;> rfl⟩
  | cons c o ih =>
    intro n
    cases n with
    | nil => exact ⟨0, Nat.le_refl _, rfl⟩
    | cons a n =>
      rw [gr]
      split
      · obtain ⟨k, hk, e⟩ := ih n
        exact ⟨k + 1, by simp; omega, e⟩
      · exact ih (a :: n)

/-! two, with a sign between -/
theorem pm_app : ∀ (A B : List Part) (s : Tx), pm (A ++ B) s = true ↔ ∃ k, k ≤ s.length ∧ pm A (s.take k) = true ∧ pm B (s.drop k) = true := by
  intro A
  induction A with
  | nil =>
    intro B s
    constructor
    · intro h; exact ⟨0, Nat.zero_le _, rfl, h⟩
    · rintro ⟨k, hk, h1, h2⟩
      have : s.take k = [] := by simpa [pm] using h1
      have hs : s.drop k = s := by
        have := List.take_append_drop k s
        rw [‹s.take k = []›, List.nil_append] at this
        exact this
      rw [hs] at h2; exact h2
  | cons q A ih =>
    intro B s
    obtain ⟨st, f⟩ := q
    cases st with
    | true =>
      have e : ∀ R y, pm ((true, f) :: R) y = starF (pm R) y := fun R y => by simp [pm]
      rw [List.cons_append, e, starF_iff]
      constructor
      · rintro ⟨k, hk, hs, hg⟩
        obtain ⟨m, hm, h1, h2⟩ := (ih B _).1 hg
        rw [List.length_drop] at hm
        refine ⟨k + m, by omega, ?_, by rw [← List.drop_drop]; exact h2⟩
        rw [e, starF_iff]
        refine ⟨k, by rw [List.length_take]; omega, by rw [List.take_take, Nat.min_eq_left (by omega)]; exact hs, ?_⟩
        rw [List.drop_take, show k + m - k = m by omega]; exact h1
      · rintro ⟨m, hm, h1, h2⟩
        rw [e, starF_iff] at h1
        obtain ⟨k, hk, hs, hg⟩ := h1
        rw [List.length_take] at hk
        refine ⟨k, by omega, by rw [List.take_take, Nat.min_eq_left (by omega)] at hs; exact hs, ?_⟩
        rw [List.drop_take] at hg
        exact (ih B _).2 ⟨m - k, by rw [List.length_drop]; omega, hg, by rw [List.drop_drop, show k + (m - k) = m by omega]; exact h2⟩
    | false =>
      cases s with
      | nil =>
        constructor
        · intro h; simp [pm] at h
        · rintro ⟨k, hk, h1, h2⟩; simp [pm] at h1
      | cons c s =>
        have e : ∀ R y, pm ((false, f) :: R) (c :: y) = (f c.toNat && pm R y) := fun R y => by simp [pm]
        rw [List.cons_append, e, Bool.and_eq_true, ih]
        constructor
        · rintro ⟨hf, k, hk, h1, h2⟩
          exact ⟨k + 1, by simp; omega, by rw [List.take_succ_cons, e, hf, h1]; rfl, h2⟩
        · rintro ⟨k, hk, h1, h2⟩
          cases k with
          | zero => simp [pm] at h1
          | succ k =>
            rw [List.take_succ_cons, e, Bool.and_eq_true] at h1
            exact ⟨h1.1, k, by simpa using hk, h1.2, h2⟩
theorem parts_app : ∀ (p r : Tx), (∀ c ∈ p, c ≠ 91 ∧ c ≠ 92) → parts (p ++ r) = parts p ++ parts r := by
  intro p
  induction p with
  | nil => intro r _; rfl
  | cons c p ih =>
    intro r h
    have hc := h c (List.mem_cons_self ..)
    have h2 := ih r (fun x hx => h x (List.mem_cons_of_mem _ hx))
    rw [List.cons_append]
    by_cases e1 : c = 42
    · subst e1; rw [parts_star, parts_star, h2]; rfl
    by_cases e2 : c = 63
    · subst e2; rw [parts_any, parts_any, h2]; rfl
    rw [parts_lit _ e1 e2 hc.1 hc.2, parts_lit _ e1 e2 hc.1 hc.2, h2]
    rfl
/-- is a name parted by a sign ahead of a place into two that are matched -/
def parted (p q s : Tx) (i : Nat) : Prop := ∃ k, k < i ∧ s[k]? = some 47 ∧ hits p (s.take k) = true ∧ hits q (s.drop (k + 1)) = true
theorem hits_paths (p q s : Tx) (hp : ∀ c ∈ p, c ≠ 91 ∧ c ≠ 92) : hits (p ++ 47 :: q) s = true ↔ parted p q s s.length := by
  unfold hits parted
  rw [parts_app p _ hp, parts_lit q (by decide) (by decide) (by decide) (by decide), pm_app]
  constructor
  · rintro ⟨k, hk, h1, h2⟩
    cases hd : s.drop k with
    | nil => rw [hd] at h2; simp [pm, lit] at h2
    | cons c y =>
      rw [hd, lit_takes, Bool.and_eq_true] at h2
      have hc : c = 47 := (of_decide_eq_true h2.1).symm
      have hlt : k < s.length := by
        rcases Nat.lt_or_ge k s.length with h | h
        · exact h
        · rw [List.drop_eq_nil_of_le h] at hd; cases hd
      have hk0 : s[k]? = some c := by
        have := congrArg (fun x => x[0]?) hd
        simpa [List.getElem?_drop] using this
      have hy : s.drop (k + 1) = y := by
        rw [← List.drop_drop, hd]; rfl
      exact ⟨k, hlt, by rw [hk0, hc], h1, by unfold hits; rw [hy]; exact h2.2⟩
  · rintro ⟨k, hk, h0, h1, h2⟩
    refine ⟨k, by omega, h1, ?_⟩
    rw [drop_at h0, lit_takes]
    simpa [hits] using h2

/-! sets -/
theorem isCls_cons {c : UInt8} (t : Tx) (h : c ≠ 91) : isCls (c :: t) = false := isCls_head (by simpa using h)
theorem setGo_escd : ∀ (l : Tx) (n : Nat) (s : Bs), (escd l ++ [93]).length < n → ∃ s', setGo true n false (escd l ++ [93]) s = some (s', 2 * l.length + 1) ∧ ∀ c, s' c = (s c || l.any (fun x => x.toNat == c)) := by
  intro l
  induction l with
  | nil =>
    intro n s hn
    cases n with
    | zero => omega
    | succ n => exact ⟨s, by simp [escd, setGo], by simp⟩
  | cons x l ih =>
    intro n s hn
    cases n with
    | zero => omega
    | succ n =>
      have hd : isDash (escd l ++ [93]) = false := by
        cases l <;> simp [isDash, escd]
      have hi : itemLen true (92 :: x :: (escd l ++ [93])) = 2 := by
        unfold itemLen
        rw [isCls_cons _ (by decide), (byte_esc x _).1]
        simp [hd]
      have hs : itemSet true (92 :: x :: (escd l ++ [93])) = spn x.toNat x.toNat := by
        unfold itemSet
        rw [isCls_cons _ (by decide), (byte_esc x _).1, (byte_esc x _).2]
        simp [hd]
      obtain ⟨s', h1, h2⟩ := ih n (both s (spn x.toNat x.toNat)) (by simp [escd] at hn ⊢; omega)
      refine ⟨s', ?_, ?_⟩
      · simp only [escd, List.cons_append]
        rw [setGo, if_neg (by simp), if_neg (by simp), hi, hs]
        simp only [List.drop_succ_cons, List.drop_zero]
        rw [h1]
        simp
        omega
      · intro c
        rw [h2]
        simp only [both, spn, List.any_cons]
        rw [Bool.eq_iff_iff]
        simp
        constructor
        · rintro ((h | h) | h)
          · exact Or.inl h
          · exact Or.inr (Or.inl (by omega))
          · exact Or.inr (Or.inr h)
        · rintro (h | h | h)
          · exact Or.inl (Or.inl h)
          · exact Or.inl (Or.inr (by omega))
          · exact Or.inr h
theorem set_row {a b : UInt8} (l : Tx) (ha1 : a ≠ 91) (ha2 : a ≠ 92) (hb1 : b ≠ 93) (hb2 : b ≠ 91) (hb3 : b ≠ 92) (n : Nat) (hn : (a :: 45 :: b :: (escd l ++ [93])).length < n) :
    ∃ s', setGo true n true (a :: 45 :: b :: (escd l ++ [93])) none_ = some (s', 2 * l.length + 4) ∧ ∀ c, s' c = (spn a.toNat b.toNat c || l.any (fun x => x.toNat == c)) := by
  cases n with
  | zero => omega
  | succ n =>
    have hd : isDash (45 :: b :: (escd l ++ [93])) = true := by
      have := isCls_cons (escd l ++ [93]) hb2
      simp [isDash, hb1, this]
    have hi : itemLen true (a :: 45 :: b :: (escd l ++ [93])) = 3 := by
      unfold itemLen
      rw [isCls_cons _ ha1, (byte_plain _ ha2).1]
      simp [hd, (byte_plain (escd l ++ [93]) hb3).1]
    have hs : itemSet true (a :: 45 :: b :: (escd l ++ [93])) = spn a.toNat b.toNat := by
      unfold itemSet
      rw [isCls_cons _ ha1, (byte_plain _ ha2).1, (byte_plain _ ha2).2]
      simp [hd, (byte_plain (escd l ++ [93]) hb3).2]
    obtain ⟨s', h1, h2⟩ := setGo_escd l n (both none_ (spn a.toNat b.toNat)) (by simp at hn ⊢; omega)
    refine ⟨s', ?_, ?_⟩
    · rw [setGo, if_neg (by simp), if_neg (by simp), hi, hs]
      simp only [List.drop_succ_cons, List.drop_zero]
      rw [h1]
      simp
    · intro c
      rw [h2]
      rfl
/-- the pattern of GlobSets -/
def setPat (l : Tx) (a b : UInt8) (o : Bool) : Tx := (if o = true then [91, 33] else [91]) ++ [a, 45, b] ++ escd l ++ [93]
theorem parts_setPat (l : Tx) (a b : UInt8) (o : Bool) (ha1 : a ≠ 91) (ha2 : a ≠ 92) (ha3 : a ≠ 33) (ha4 : a ≠ 94) (hb1 : b ≠ 93) (hb2 : b ≠ 91) (hb3 : b ≠ 92) :
    ∃ s', parts (setPat l a b o) = [(false, clean s' o)] ∧ ∀ c, s' c = (spn a.toNat b.toNat c || l.any (fun x => x.toNat == c)) := by
  cases o with
  | true =>
    obtain ⟨s', h1, h2⟩ := set_row l ha1 ha2 hb1 hb2 hb3 ((33 :: a :: 45 :: b :: (escd l ++ [93])).length + 1) (by simp)
    refine ⟨s', ?_, h2⟩
    have hso : setOf (33 :: a :: 45 :: b :: (escd l ++ [93])) = some (clean s' true, 2 * l.length + 5) := by
      have hn : neg (33 :: a :: 45 :: b :: (escd l ++ [93])) = true := by simp [neg]
      unfold setOf negLen
      rw [hn]
      simp only [if_true, List.drop_succ_cons, List.drop_zero]
      rw [h1]
      rfl
    have hp : setPat l a b true = 91 :: 33 :: a :: 45 :: b :: (escd l ++ [93]) := by simp [setPat]
    unfold parts
    rw [hp, List.length_cons, parse, if_neg (by simp), if_neg (by simp), if_neg (by simp), if_pos ⟨rfl, rfl⟩]
    simp only [List.drop_succ_cons, List.drop_zero, hso]
    have hl : (escd l).length = 2 * l.length := escd_len l
    rw [List.drop_eq_nil_of_le (by simp [hl])]
    simp [parse]
  | false =>
    obtain ⟨s', h1, h2⟩ := set_row l ha1 ha2 hb1 hb2 hb3 ((a :: 45 :: b :: (escd l ++ [93])).length + 1) (by simp)
    refine ⟨s', ?_, h2⟩
    have hso : setOf (a :: 45 :: b :: (escd l ++ [93])) = some (clean s' false, 2 * l.length + 4) := by
      have hn : neg (a :: 45 :: b :: (escd l ++ [93])) = false := by simp [neg, ha3, ha4]
      unfold setOf negLen
      rw [hn]
      simp only [Bool.false_eq_true, if_false, List.drop_zero]
      rw [h1]
      rfl
    have hp : setPat l a b false = 91 :: a :: 45 :: b :: (escd l ++ [93]) := by simp [setPat]
    unfold parts
    rw [hp, List.length_cons, parse, if_neg (by simp), if_neg (by simp), if_neg (by simp), if_pos ⟨rfl, rfl⟩]
    simp only [List.drop_succ_cons, List.drop_zero, hso]
    have hl : (escd l).length = 2 * l.length := escd_len l
    rw [List.drop_eq_nil_of_le (by simp [hl])]
    simp [parse]
theorem hits_setPat (l : Tx) (a b c : UInt8) (o : Bool) (ha1 : a ≠ 91) (ha2 : a ≠ 92) (ha3 : a ≠ 33) (ha4 : a ≠ 94) (hb1 : b ≠ 93) (hb2 : b ≠ 91) (hb3 : b ≠ 92) :
    hits (setPat l a b o) [c] = ((((decide (a.toNat ≤ c.toNat) && decide (c.toNat ≤ b.toNat)) || l.any (fun x => x == c)) != o) && c != 47) ∧ hits (setPat l a b o) [] = false ∧ hits (setPat l a b o) [c, c] = false := by
  obtain ⟨s', h1, h2⟩ := parts_setPat l a b o ha1 ha2 ha3 ha4 hb1 hb2 hb3
  unfold hits
  rw [h1]
  refine ⟨?_, rfl, by simp [pm]⟩
  simp only [pm, Bool.false_eq_true, if_false, List.isEmpty_nil, Bool.and_true, clean, h2, spn]
  have e1 : (c.toNat != 47) = (c != 47) := by
    rw [Bool.eq_iff_iff]
    simp
    constructor
    · intro h e; exact h (by rw [e]; rfl)
    · intro h e; exact h (UInt8.toNat_inj.1 e)
  have e2 : (l.any fun x => x.toNat == c.toNat) = l.any (fun x => x == c) := by
    congr 1
    funext x
    rw [Bool.eq_iff_iff]
    simp [UInt8.toNat_inj]
  rw [e1, e2]

end Go.Proofs.Ythjhihpbilaifaa.Gl


/-
  Plain laws of rows of unit steps that are done to lines: two, one behind the other, do what both do; how many lines and changes they have; no condition but those that each states.
-/
import Derived.Test.YtbmnflldjkcgnaaCWk
namespace Go.Proofs.Ytbmnflldjkcgnaa.Ol
open Go.Proofs.Ytbmnflldjkcgnaa.Ln

/-- what comes of lines by unit steps -/
def rnu : List Ut → List Tx → Option (List Tx)
  | [], z => some z
  | .s :: _, [] => none
  | .s :: l, t :: z => (rnu l z).map (t :: ·)
  | .k _ :: _, [] => none
  | .k u :: l, t :: z => if u = t then (rnu l z).map (t :: ·) else none
  | .d _ :: _, [] => none
  | .d u :: l, t :: z => if u = t then rnu l z else none
  | .i u :: l, z => (rnu l z).map (u :: ·)
theorem rnu_rep (n : Nat) (l : List Ut) : ∀ z : List Tx, rnu (List.replicate n Ut.s ++ l) z = if n ≤ z.length then (rnu l (z.drop n)).map (z.take n ++ ·) else none := by
  induction n with
  | zero => intro z; simp
  | succ n ih =>
    intro z
    rw [List.replicate_succ, List.cons_append]
    cases z with
    | nil => rfl
    | cons t z =>
      rw [rnu, ih]
      by_cases h : n ≤ z.length
      · rw [if_pos h, if_pos (by simp; omega), Option.map_map]; rfl
      · rw [if_neg h, if_neg (by simp; omega)]; rfl
theorem drop_at {old : List Tx} {p : Nat} {t : Tx} (h : old[p]? = some t) : old.drop p = t :: old.drop (p + 1) := by
  obtain ⟨hp, e⟩ := List.getElem?_eq_some_iff.1 h
  rw [List.drop_eq_getElem_cons hp, e]
theorem rnu_ex (old : List Tx) (l : List Oq) : (∀ x ∈ l, al0 x) → ∀ (o : List Tx) (p : Nat), p ≤ old.length → (l.foldl (ds old) (some (o, p))).map (fun s => s.1 ++ old.drop s.2) = (rnu (ex l) (old.drop p)).map (o ++ ·) := by
  induction l with
  | nil => intro _ o p _; rfl
  | cons x l ih =>
    intro hal o p hp
    have hx := hal x (by simp)
    have ih' := ih (fun y hy => hal y (by simp [hy]))
    obtain ⟨k, n, t⟩ := x
    simp only [al0] at hx
    rw [List.foldl_cons, ex]
    by_cases e4 : k = 4
    · subst e4
      rw [ds_ins, ih' _ _ hp, ex1_i, List.singleton_append, rnu, Option.map_map]
      congr 1; funext z; simp
    · by_cases e1 : k = 1
      · subst e1
        rw [ex1_s, rnu_rep, List.length_drop]
        by_cases hle : (p : Int) + n ≤ old.length
        · have hn : n = (n.toNat : Nat) := by omega
          rw [ds_skip n.toNat hn (by omega), ih' _ _ (by omega), if_pos (by omega), Option.map_map, List.drop_drop]
          congr 1; funext z; simp
        · rw [ds_skip_no hle, ds_none, if_neg (by omega)]; rfl
      · by_cases ho : old[p]? = some t
        · have hpl := (List.getElem?_eq_some_iff.1 ho).1
          by_cases e3 : k = 3
          · subst e3
            rw [ds_del ho, ih' _ _ (by omega), ex1_d, List.singleton_append, drop_at ho, rnu, if_pos rfl]
          · obtain rfl : k = 2 := by omega
            rw [ds_keep ho, ih' _ _ (by omega), ex1_k, List.singleton_append, drop_at ho, rnu, if_pos rfl, Option.map_map]
            congr 1; funext z; simp
        · rw [ds_no e1 e4 ho, ds_none]
          have : rnu (ex1 (k, n, t) ++ ex l) (old.drop p) = none := by
            by_cases hpl : p < old.length
            · obtain ⟨u, hu⟩ : ∃ u, old[p]? = some u := ⟨old[p], List.getElem?_eq_getElem hpl⟩
              have hne : ¬ t = u := fun e => ho (by rw [hu, e])
              by_cases e3 : k = 3
              · subst e3; rw [ex1_d, List.singleton_append, drop_at hu, rnu, if_neg hne]
              · obtain rfl : k = 2 := by omega
                rw [ex1_k, List.singleton_append, drop_at hu, rnu, if_neg hne]
            · rw [List.drop_of_length_le (by omega)]
              by_cases e3 : k = 3
              · subst e3; rw [ex1_d]; rfl
              · obtain rfl : k = 2 := by omega
                rw [ex1_k]; rfl
          rw [this]; rfl
theorem rnu_dsl {old : List Tx} {l : List Oq} (h : ∀ x ∈ l, al0 x) : (dsl old l).map (fun s => s.1 ++ old.drop s.2) = rnu (ex l) old := by
  have := rnu_ex old l h [] 0 (Nat.zero_le _)
  simp only [List.drop_zero, List.nil_append, Option.map_id'] at this
  exact this

/-- what the first row makes of the next line of the middle -/
theorem side_p {p : List Ut} {z m : List Tx} {t : Tx} (hp : isD p = false) (h : rnu p z = some (t :: m)) : (hdU p = .i t ∧ rnu p.tail z = some m) ∨ ((hdU p = .s ∨ hdU p = .k t) ∧ ∃ z', z = t :: z' ∧ rnu p.tail z' = some m) := by
  cases p with
  | nil => simp only [rnu, Option.some.injEq] at h; subst h; exact Or.inr ⟨Or.inl rfl, m, rfl, rfl⟩
  | cons x p =>
    cases x with
    | d u => cases hp
    | i u =>
      simp only [rnu] at h
      obtain ⟨b, h1, h2⟩ := Option.map_eq_some_iff.1 h
      simp only [List.cons.injEq] at h2
      obtain ⟨rfl, rfl⟩ := h2
      exact Or.inl ⟨rfl, h1⟩
    | s =>
      cases z with
      | nil => cases h
      | cons u z =>
        simp only [rnu] at h
        obtain ⟨b, h1, h2⟩ := Option.map_eq_some_iff.1 h
        simp only [List.cons.injEq] at h2
        obtain ⟨rfl, rfl⟩ := h2
        exact Or.inr ⟨Or.inl rfl, z, rfl, h1⟩
    | k v =>
      cases z with
      | nil => cases h
      | cons u z =>
        simp only [rnu] at h
        split at h
        · rename_i e
          subst e
          obtain ⟨b, h1, h2⟩ := Option.map_eq_some_iff.1 h
          simp only [List.cons.injEq] at h2
          obtain ⟨rfl, rfl⟩ := h2
          exact Or.inr ⟨Or.inr rfl, z, rfl, h1⟩
        · cases h
/-- what the second row makes of it -/
theorem side_q {q : List Ut} {m b : List Tx} {t : Tx} (hq : isI q = false) (h : rnu q (t :: m) = some b) : (hdU q = .d t ∧ rnu q.tail m = some b) ∨ ((hdU q = .s ∨ hdU q = .k t) ∧ ∃ b', b = t :: b' ∧ rnu q.tail m = some b') := by
  cases q with
  | nil => simp only [rnu, Option.some.injEq] at h; subst h; exact Or.inr ⟨Or.inl rfl, m, rfl, rfl⟩
  | cons x q =>
    cases x with
    | i u => cases hq
    | d u =>
      simp only [rnu] at h
      split at h
      · rename_i e; subst e; exact Or.inl ⟨rfl, h⟩
      · cases h
    | s =>
      simp only [rnu] at h
      obtain ⟨b', h1, rfl⟩ := Option.map_eq_some_iff.1 h
      exact Or.inr ⟨Or.inl rfl, b', rfl, h1⟩
    | k v =>
      simp only [rnu] at h
      split at h
      · rename_i e
        subst e
        obtain ⟨b', h1, rfl⟩ := Option.map_eq_some_iff.1 h
        exact Or.inr ⟨Or.inr rfl, b', rfl, h1⟩
      · cases h
/-- where something is left, there is a line of the middle -/
theorem mid_ne {p q : List Ut} {z m b : List Tx} (hp : isD p = false) (hq : isI q = false) (h3 : (p.isEmpty && q.isEmpty) = false) (h1 : rnu p z = some m) (h2 : rnu q m = some b) : ∃ t m', m = t :: m' := by
  cases m with
  | cons t m => exact ⟨t, m, rfl⟩
  | nil =>
    exfalso
    cases q with
    | cons y q => cases y <;> first | (simp [isI] at hq; done) | (simp [rnu] at h2; done)
    | nil =>
      cases p with
      | nil => cases h3
      | cons x p =>
        cases x with
        | d u => cases hp
        | i u => simp only [rnu] at h1; obtain ⟨b, _, e⟩ := Option.map_eq_some_iff.1 h1; cases e
        | s =>
          cases z with
          | nil => cases h1
          | cons u z => simp only [rnu] at h1; obtain ⟨b, _, e⟩ := Option.map_eq_some_iff.1 h1; cases e
        | k v =>
          cases z with
          | nil => cases h1
          | cons u z =>
            simp only [rnu] at h1
            split at h1
            · obtain ⟨b, _, e⟩ := Option.map_eq_some_iff.1 h1; cases e
            · cases h1
/-- two rows do, one behind the other, what both do -/
theorem ce_does (n : Nat) : ∀ (e : Bool) (p q : List Ut) (z m b : List Tx), p.length + q.length < n → rnu p z = some m → rnu q m = some b → wh m = true → (e = true → m = []) → ∃ a, ce e p q = some a ∧ rnu a z = some b := by
  induction n with
  | zero => intro e p q z m b hn; omega
  | succ n ih =>
    intro e p q z m b hn h1 h2 hw he
    cases hp : isD p with
    | true =>
      obtain ⟨t, p', rfl⟩ := isD_is hp
      cases z with
      | nil => cases h1
      | cons u z =>
        simp only [rnu] at h1
        split at h1
        · rename_i et
          subst et
          obtain ⟨a, ha, hb⟩ := ih e p' q z m b (by simp at hn; omega) h1 h2 hw he
          refine ⟨.d t :: a, by rw [ce_d, ha]; rfl, ?_⟩
          rw [rnu, if_pos rfl]; exact hb
        · cases h1
    | false =>
      cases hq : isI q with
      | true =>
        obtain ⟨t, q', rfl⟩ := isI_is hq
        simp only [rnu] at h2
        obtain ⟨b', h2', rfl⟩ := Option.map_eq_some_iff.1 h2
        obtain ⟨a, ha, hb⟩ := ih e p q' z m b' (by simp at hn; omega) h1 h2' hw he
        refine ⟨.i t :: a, by rw [ce_i e t p q' hp, ha]; rfl, ?_⟩
        rw [rnu, hb]; rfl
      | false =>
        cases h3 : (p.isEmpty && q.isEmpty) with
        | true =>
          obtain ⟨rfl, rfl⟩ := both_nil h3
          simp only [rnu, Option.some.injEq] at h1 h2
          subst h1 h2
          exact ⟨[], ce_nil e, rfl⟩
        | false =>
          obtain ⟨t, m', rfl⟩ := mid_ne hp hq h3 h1 h2
          have hef : e = false := by cases e with | false => rfl | true => cases he rfl
          subst hef
          have hwm : wh m' = true ∧ (cl t = false → m' = []) := by
            simp only [wh, Bool.and_eq_true, Bool.or_eq_true] at hw
            refine ⟨hw.2, fun hc => ?_⟩
            rcases hw.1.2 with h | h
            · simpa using h
            · rw [hc] at h; cases h
          have hop : ∀ x : Ut, (x = .s ∨ x = .k t ∨ x = .d t ∨ x = .i t) → opU x = true → m' = [] := by
            intro x hx ho
            rcases hx with rfl | rfl | rfl | rfl
            · cases ho
            all_goals exact hwm.2 (by simpa [opU] using ho)
          have hlen := both_tail h3 hn
          have hsq := side_q hq h2
          have hsp := side_p hp h1
          have hce : ∀ o : List Ut, cb (hdU p) (hdU q) = some o → ∀ a', ce (opU (hdU p) || opU (hdU q)) p.tail q.tail = some a' → ce false p q = some (o ++ a') := by
            intro o ho a' ha'
            rw [ce_c false p q hp hq h3, if_neg (by simp), ho, Option.bind_some, ha']; rfl
          have hfl : (opU (hdU p) || opU (hdU q)) = true → m' = [] := by
            intro h
            rw [Bool.or_eq_true] at h
            rcases h with h | h
            · refine hop _ ?_ h
              rcases hsp with ⟨e, _⟩ | ⟨e | e, _⟩
              · exact Or.inr (Or.inr (Or.inr e))
              · exact Or.inl e
              · exact Or.inr (Or.inl e)
            · refine hop _ ?_ h
              rcases hsq with ⟨e, _⟩ | ⟨e | e, _⟩
              · exact Or.inr (Or.inr (Or.inl e))
              · exact Or.inl e
              · exact Or.inr (Or.inl e)
          rcases hsp with ⟨ex, hp'⟩ | ⟨ex, z', rfl, hp'⟩
          · rcases hsq with ⟨ey, hq'⟩ | ⟨ey, b', rfl, hq'⟩
            · obtain ⟨a, ha, hb⟩ := ih _ p.tail q.tail z m' b hlen hp' hq' hwm.1 hfl
              exact ⟨a, hce [] (by rw [ex, ey, cb, if_pos rfl]) a ha, hb⟩
            · obtain ⟨a, ha, hb⟩ := ih _ p.tail q.tail z m' b' hlen hp' hq' hwm.1 hfl
              refine ⟨[.i t] ++ a, hce [.i t] (by rcases ey with ey | ey <;> rw [ex, ey, cb]; rw [if_pos rfl]) a ha, ?_⟩
              rw [List.singleton_append, rnu, hb]; rfl
          · rcases hsq with ⟨ey, hq'⟩ | ⟨ey, b', rfl, hq'⟩
            · obtain ⟨a, ha, hb⟩ := ih _ p.tail q.tail z' m' b hlen hp' hq' hwm.1 hfl
              refine ⟨[.d t] ++ a, hce [.d t] (by rcases ex with ex | ex <;> rw [ex, ey, cb]; rw [if_pos rfl]) a ha, ?_⟩
              rw [List.singleton_append, rnu, if_pos rfl]; exact hb
            · obtain ⟨a, ha, hb⟩ := ih _ p.tail q.tail z' m' b' hlen hp' hq' hwm.1 hfl
              by_cases hss : hdU p = .s ∧ hdU q = .s
              · refine ⟨[.s] ++ a, hce [.s] (by rw [hss.1, hss.2, cb]) a ha, ?_⟩
                rw [List.singleton_append, rnu, hb]; rfl
              · refine ⟨[.k t] ++ a, hce [.k t] ?_ a ha, ?_⟩
                · rcases ex with ex | ex <;> rcases ey with ey | ey
                  · exact absurd ⟨ex, ey⟩ hss
                  · rw [ex, ey, cb]
                  · rw [ex, ey, cb]
                  · rw [ex, ey, cb, if_pos rfl]
                · rw [List.singleton_append, rnu, if_pos rfl, hb]; rfl

end Go.Proofs.Ytbmnflldjkcgnaa.Ol

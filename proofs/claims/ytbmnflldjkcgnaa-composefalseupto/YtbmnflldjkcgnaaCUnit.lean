
/-
  Plain laws of steps of one line each, and of two rows of them, one behind the other: which row they are together, and that of three it is one which two are put together first; no condition but those that each states.
-/
import Derived.Test.YtbmnflldjkcgnaaFPlain
namespace Go.Proofs.Ytbmnflldjkcgnaa.Ol
open Go.Proofs.Ytbmnflldjkcgnaa.Ln

/-- steps of one line each: a line that is not known, one that stays, one that goes, one that comes -/
inductive Ut where
  | s | k (t : Tx) | d (t : Tx) | i (t : Tx)

/-- a line of the middle: what is left of what both make of it -/
def cb : Ut → Ut → Option (List Ut)
  | .s, .s => some [.s]
  | .s, .k t => some [.k t]
  | .s, .d t => some [.d t]
  | .k t, .s => some [.k t]
  | .k t, .k u => if t = u then some [.k t] else none
  | .k t, .d u => if t = u then some [.d t] else none
  | .i t, .s => some [.i t]
  | .i t, .k u => if t = u then some [.i t] else none
  | .i t, .d u => if t = u then some [] else none
  | _, _ => none
def isD : List Ut → Bool
  | .d _ :: _ => true
  | _ => false
def isI : List Ut → Bool
  | .i _ :: _ => true
  | _ => false
/-- two rows, one behind the other -/
def cu (p q : List Ut) : Option (List Ut) :=
  match p with
  | .d t :: p' => (cu p' q).map (Ut.d t :: ·)
  | p => match q with
    | .i t :: q' => (cu p q').map (Ut.i t :: ·)
    | q => match p, q with
      | [], q => some q
      | p, [] => some p
      | x :: p', y :: q' => (cb x y).bind fun o => (cu p' q').map (o ++ ·)
termination_by p.length + q.length
decreasing_by all_goals (simp_all; try omega)

theorem cu_d (t : Tx) (p q : List Ut) : cu (.d t :: p) q = (cu p q).map (Ut.d t :: ·) := by rw [cu.eq_def]
theorem cu_i (t : Tx) (p q : List Ut) (h : isD p = false) : cu p (.i t :: q) = (cu p q).map (Ut.i t :: ·) := by
  rw [cu.eq_def]
  cases p with
  | nil => rfl
  | cons x p => cases x <;> first | rfl | (simp [isD] at h)
theorem cu_c (x y : Ut) (p q : List Ut) (h : isD (x :: p) = false) (h2 : isI (y :: q) = false) : cu (x :: p) (y :: q) = (cb x y).bind fun o => (cu p q).map (o ++ ·) := by
  rw [cu.eq_def]
  cases x <;> first | (simp [isD] at h; done) | (cases y <;> first | (simp [isI] at h2; done) | rfl)
theorem cu_nil_l (q : List Ut) : cu [] q = some q := by
  induction q with
  | nil => rw [cu.eq_def]
  | cons y q ih =>
    cases y with
    | i t => rw [cu_i t [] q rfl, ih]; rfl
    | s => rw [cu.eq_def]
    | k t => rw [cu.eq_def]
    | d t => rw [cu.eq_def]
theorem cu_nil_r (p : List Ut) : cu p [] = some p := by
  induction p with
  | nil => rw [cu.eq_def]
  | cons x p ih =>
    cases x with
    | d t => rw [cu_d, ih]; rfl
    | s => rw [cu.eq_def]
    | k t => rw [cu.eq_def]
    | i t => rw [cu.eq_def]

theorem cb_assoc {x y z w v : Ut} {o2 o3 : List Ut} (h1 : cb x y = some [w]) (h2 : cb y z = some [v]) (h3 : cb w z = some o2) (h4 : cb x v = some o3) : o2 = o3 := by
  cases x <;> cases y <;> simp [cb] at h1 <;> (try obtain ⟨e1, e2⟩ := h1) <;> subst_vars <;> cases z <;> simp [cb] at h2 <;> (try obtain ⟨e3, e4⟩ := h2) <;> subst_vars <;> simp [cb] at h3 h4 <;> first | (simp_all; done) | (obtain ⟨e5, e6⟩ := h3; obtain ⟨e7, e8⟩ := h4; subst_vars; rfl) | (obtain ⟨e5, e6⟩ := h3; subst_vars; simp_all)

theorem map_of {f : List Ut → List Ut} {o : Option (List Ut)} {a : List Ut} (h : o.map f = some a) : ∃ b, o = some b ∧ a = f b := by
  obtain ⟨b, h1, h2⟩ := Option.map_eq_some_iff.1 h
  exact ⟨b, h1, h2.symm⟩
theorem bind_of {x y : Ut} {p q a : List Ut} (h : ((cb x y).bind fun o => (cu p q).map (o ++ ·)) = some a) : ∃ o b, cb x y = some o ∧ cu p q = some b ∧ a = o ++ b := by
  obtain ⟨o, h1, h2⟩ := Option.bind_eq_some_iff.1 h
  obtain ⟨b, h3, h4⟩ := map_of h2
  exact ⟨o, b, h1, h3, h4⟩
/-- what a line of the middle leaves -/
theorem cb_is {x : Ut} {u : Tx} {o : List Ut} (h : cb x (.d u) = some o) : o = [.d u] ∨ o = [] := by
  cases x <;> simp [cb] at h
  · exact Or.inl h.symm
  · exact Or.inl (by rw [← h.2, h.1])
  · exact Or.inr h.2
theorem cb_i {t : Tx} {z : Ut} {o : List Ut} (h : cb (.i t) z = some o) : o = [.i t] ∨ o = [] := by
  cases z <;> simp [cb] at h
  · exact Or.inl h.symm
  · exact Or.inl h.2.symm
  · exact Or.inr h.2
/-- what no Del and no Ins leaves -/
theorem cb_one {x y : Ut} {o : List Ut} (hx : isD [x] = false) (hy : isI [y] = false) (hyd : isD [y] = false) (h : cb x y = some o) : ∃ w, o = [w] ∧ isD [w] = false := by
  cases x <;> cases y <;> simp [cb, isD, isI] at h hx hy hyd
  · exact ⟨_, h.symm, rfl⟩
  · exact ⟨_, h.symm, rfl⟩
  · exact ⟨_, h.symm, rfl⟩
  · exact ⟨_, h.2.symm, rfl⟩
  · exact ⟨_, h.symm, rfl⟩
  · exact ⟨_, h.2.symm, rfl⟩
theorem cb_two {y z : Ut} {o : List Ut} (hy : isI [y] = false) (hyd : isD [y] = false) (hz : isI [z] = false) (h : cb y z = some o) : ∃ v, o = [v] ∧ isI [v] = false := by
  cases y <;> cases z <;> simp [cb, isD, isI] at h hy hyd hz
  · exact ⟨_, h.symm, rfl⟩
  · exact ⟨_, h.symm, rfl⟩
  · exact ⟨_, h.symm, rfl⟩
  · exact ⟨_, h.symm, rfl⟩
  · exact ⟨_, h.2.symm, rfl⟩
  · exact ⟨_, h.2.symm, rfl⟩
theorem isD_hd (x : Ut) (l : List Ut) : isD (x :: l) = isD [x] := by cases x <;> rfl
theorem isI_hd (x : Ut) (l : List Ut) : isI (x :: l) = isI [x] := by cases x <;> rfl

/-- of three it is one which two are put together first -/
theorem cu_assoc (n : Nat) : ∀ (p q r a b x y : List Ut), p.length + q.length + r.length < n → cu p q = some a → cu a r = some x → cu q r = some b → cu p b = some y → x = y := by
  induction n with
  | zero => intro p q r a b x y hn; omega
  | succ n ih =>
    intro p q r a b x y hn h1 h2 h3 h4
    cases p with
    | nil => rw [cu_nil_l] at h1 h4; cases h1; cases h4; rw [h2] at h3; cases h3; rfl
    | cons p0 p =>
      cases hp : isD (p0 :: p) with
      | true =>
        cases p0 with
        | d t =>
          rw [cu_d] at h1 h4
          obtain ⟨a', ha, rfl⟩ := map_of h1
          obtain ⟨y', hy, rfl⟩ := map_of h4
          rw [cu_d] at h2
          obtain ⟨x', hx, rfl⟩ := map_of h2
          rw [ih p q r a' b x' y' (by simp at hn; omega) ha hx h3 hy]
        | s => cases hp
        | k t => cases hp
        | i t => cases hp
      | false =>
        cases q with
        | nil => rw [cu_nil_r] at h1; rw [cu_nil_l] at h3; cases h1; cases h3; rw [h2] at h4; cases h4; rfl
        | cons q0 q =>
          cases hq : isI (q0 :: q) with
          | true =>
            cases q0 with
            | i t =>
              have h1' := h1
              rw [cu_i t _ _ hp] at h1
              obtain ⟨a', ha, rfl⟩ := map_of h1
              cases r with
              | nil =>
                rw [cu_nil_r] at h2 h3; cases h2; cases h3
                rw [h1'] at h4; cases h4; rfl
              | cons r0 r =>
                cases hr : isI (r0 :: r) with
                | true =>
                  cases r0 with
                  | i s =>
                    rw [cu_i s _ _ rfl] at h2 h3
                    obtain ⟨x', hx, rfl⟩ := map_of h2
                    obtain ⟨b', hb, rfl⟩ := map_of h3
                    rw [cu_i s _ _ hp] at h4
                    obtain ⟨y', hy, rfl⟩ := map_of h4
                    rw [ih (p0 :: p) (.i t :: q) r (.i t :: a') b' x' y' (by simp at hn ⊢; omega) h1' hx hb hy]
                  | s => cases hr
                  | k t => cases hr
                  | d t => cases hr
                | false =>
                  rw [cu_c _ _ _ _ rfl hr] at h2 h3
                  obtain ⟨o, x', ho, hx, rfl⟩ := bind_of h2
                  obtain ⟨o', b', ho', hb, rfl⟩ := bind_of h3
                  rw [ho] at ho'; cases ho'
                  rcases cb_i ho with rfl | rfl
                  · rw [List.singleton_append, cu_i t _ _ hp] at h4
                    obtain ⟨y', hy, rfl⟩ := map_of h4
                    rw [ih (p0 :: p) q r a' b' x' y' (by simp at hn ⊢; omega) ha hx hb hy]; rfl
                  · rw [List.nil_append] at h4
                    rw [ih (p0 :: p) q r a' b' x' y (by simp at hn ⊢; omega) ha hx hb h4]; rfl
            | s => cases hq
            | k t => cases hq
            | d t => cases hq
          | false =>
            have h1' := h1
            rw [cu_c _ _ _ _ hp hq] at h1
            obtain ⟨o, a', ho, ha, rfl⟩ := bind_of h1
            cases hqd : isD (q0 :: q) with
            | true =>
              cases q0 with
              | d u =>
                rw [cu_d] at h3
                obtain ⟨b', hb, rfl⟩ := map_of h3
                rw [cu_c _ _ _ _ hp rfl] at h4
                obtain ⟨o', y', ho', hy, rfl⟩ := bind_of h4
                rw [ho] at ho'; cases ho'
                rcases cb_is ho with rfl | rfl
                · rw [List.singleton_append, cu_d] at h2
                  obtain ⟨x', hx, rfl⟩ := map_of h2
                  rw [ih p q r a' b' x' y' (by simp at hn ⊢; omega) ha hx hb hy]; rfl
                · rw [List.nil_append] at h2
                  rw [ih p q r a' b' x y' (by simp at hn ⊢; omega) ha h2 hb hy]; rfl
              | s => cases hqd
              | k t => cases hqd
              | i t => cases hqd
            | false =>
              rw [isD_hd] at hp hqd
              rw [isI_hd] at hq
              obtain ⟨w, rfl, hw⟩ := cb_one hp hq hqd ho
              cases r with
              | nil =>
                rw [cu_nil_r] at h2 h3; cases h2; cases h3
                rw [h1'] at h4; cases h4; rfl
              | cons r0 r =>
                cases hr : isI (r0 :: r) with
                | true =>
                  cases r0 with
                  | i s =>
                    rw [cu_i s _ _ (by rw [List.singleton_append, isD_hd]; exact hw)] at h2
                    rw [cu_i s _ _ (by rw [isD_hd]; exact hqd)] at h3
                    obtain ⟨x', hx, rfl⟩ := map_of h2
                    obtain ⟨b', hb, rfl⟩ := map_of h3
                    rw [cu_i s _ _ (by rw [isD_hd]; exact hp)] at h4
                    obtain ⟨y', hy, rfl⟩ := map_of h4
                    rw [ih (p0 :: p) (q0 :: q) r ([w] ++ a') b' x' y' (by simp at hn ⊢; omega) h1' hx hb hy]
                  | s => cases hr
                  | k t => cases hr
                  | d t => cases hr
                | false =>
                  rw [List.singleton_append, cu_c _ _ _ _ (by rw [isD_hd]; exact hw) hr] at h2
                  rw [cu_c _ _ _ _ (by rw [isD_hd]; exact hqd) hr] at h3
                  obtain ⟨o2, x', ho2, hx, rfl⟩ := bind_of h2
                  obtain ⟨ov, b', hov, hb, rfl⟩ := bind_of h3
                  rw [isI_hd] at hr
                  obtain ⟨v, rfl, hv⟩ := cb_two hq hqd hr hov
                  rw [List.singleton_append, cu_c _ _ _ _ (by rw [isD_hd]; exact hp) (by rw [isI_hd]; exact hv)] at h4
                  obtain ⟨o3, y', ho3, hy, rfl⟩ := bind_of h4
                  rw [cb_assoc ho hov ho2 ho3, ih p q r a' b' x' y' (by simp at hn ⊢; omega) ha hx hb hy]

end Go.Proofs.Ytbmnflldjkcgnaa.Ol

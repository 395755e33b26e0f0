
/-
  Plain laws of rows of steps of one line each, but for the order of what goes and what comes: two rows are one so, and what comes of them, one behind the other, is one so too; no condition but those that each states.
-/
import Derived.Test.YtbmnflldjkcgnaaCUnit
namespace Go.Proofs.Ytbmnflldjkcgnaa.Ol
open Go.Proofs.Ytbmnflldjkcgnaa.Ln

/-- a line that comes, behind what goes -/
def insI (t : Tx) : List Ut → List Ut
  | .d u :: c => .d u :: insI t c
  | c => .i t :: c
def consN : Ut → List Ut → List Ut
  | .i t, c => insI t c
  | x, c => x :: c
/-- a row in order: what goes ahead of what comes -/
def lin : List Ut → List Ut
  | [] => []
  | x :: l => consN x (lin l)
/-- two outcomes are one, but for the order -/
def Eqv (a b : Option (List Ut)) : Prop := a.map lin = b.map lin
theorem Eqv.refl (a : Option (List Ut)) : Eqv a a := rfl
theorem Eqv.trans {a b c : Option (List Ut)} (h1 : Eqv a b) (h2 : Eqv b c) : Eqv a c := Eq.trans h1 h2
theorem Eqv.symm {a b : Option (List Ut)} (h : Eqv a b) : Eqv b a := Eq.symm h
theorem Eqv.cons {a b : Option (List Ut)} (h : Eqv a b) (x : Ut) : Eqv (a.map (x :: ·)) (b.map (x :: ·)) := by
  unfold Eqv at *
  cases a with
  | none => cases b with
    | none => rfl
    | some b => cases h
  | some a => cases b with
    | none => cases h
    | some b =>
      simp only [Option.map_some, Option.some.injEq] at h ⊢
      simp only [lin, h]
theorem Eqv.app {a b : Option (List Ut)} (h : Eqv a b) (o : List Ut) : Eqv (a.map (o ++ ·)) (b.map (o ++ ·)) := by
  induction o with
  | nil => simpa using h
  | cons x o ih =>
    have := ih.cons x
    simp only [Option.map_map] at this
    exact this
theorem insI_d (t u : Tx) (c : List Ut) : insI t (.d u :: c) = .d u :: insI t c := rfl
/-- what comes and what goes change places -/
theorem Eqv.swap (a : Option (List Ut)) (t u : Tx) : Eqv ((a.map (Ut.d u :: ·)).map (Ut.i t :: ·)) ((a.map (Ut.i t :: ·)).map (Ut.d u :: ·)) := by
  cases a with
  | none => rfl
  | some a => rfl
theorem Eqv.some_iff {a b : List Ut} : Eqv (some a) (some b) ↔ lin a = lin b := by simp [Eqv]
theorem Eqv.out {a : List Ut} {b : Option (List Ut)} (h : Eqv (some a) b) : ∃ c, b = some c ∧ lin a = lin c := by
  cases b with
  | none => cases h
  | some b => exact ⟨b, rfl, Eqv.some_iff.1 h⟩
theorem bind_app (x z : Ut) (f : Option (List Ut)) : ((cb x z).bind fun o => f.map (o ++ ·)) = match cb x z with | none => none | some o => f.map (o ++ ·) := by
  cases cb x z <;> rfl

/-- in the first row -/
theorem cu_swapL (t u : Tx) (c : List Ut) (r : List Ut) : Eqv (cu (.i t :: .d u :: c) r) ((cu (.i t :: c) r).map (Ut.d u :: ·)) := by
  induction r with
  | nil => rw [cu_nil_r, cu_nil_r]; rfl
  | cons z r ih =>
    cases hz : isI (z :: r) with
    | true =>
      cases z with
      | i s =>
        rw [cu_i s _ _ rfl, cu_i s _ _ rfl]
        exact (ih.cons (.i s)).trans (Eqv.swap _ s u)
      | s => cases hz
      | k t => cases hz
      | d t => cases hz
    | false =>
      rw [cu_c _ _ _ _ rfl hz, cu_c _ _ _ _ rfl hz, cu_d]
      cases ho : cb (.i t) z with
      | none => rfl
      | some o =>
        simp only [Option.bind_some]
        rcases cb_i ho with rfl | rfl
        · exact Eqv.swap (cu c r) t u
        · simp only [List.nil_append, Option.map_id']
          exact Eqv.refl _
theorem cu_congL (x : Ut) (l l' : List Ut) (h : ∀ r, Eqv (cu l r) (cu l' r)) : ∀ r, Eqv (cu (x :: l) r) (cu (x :: l') r) := by
  intro r
  cases hx : isD [x] with
  | true =>
    cases x with
    | d t => rw [cu_d, cu_d]; exact (h r).cons _
    | s => cases hx
    | k t => cases hx
    | i t => cases hx
  | false =>
    induction r with
    | nil =>
      have := h []
      rw [cu_nil_r, cu_nil_r] at this ⊢
      exact this.cons x
    | cons z r ih =>
      cases hz : isI (z :: r) with
      | true =>
        cases z with
        | i s => rw [cu_i s _ _ (by rw [isD_hd]; exact hx), cu_i s _ _ (by rw [isD_hd]; exact hx)]; exact ih.cons _
        | s => cases hz
        | k t => cases hz
        | d t => cases hz
      | false =>
        rw [cu_c _ _ _ _ (by rw [isD_hd]; exact hx) hz, cu_c _ _ _ _ (by rw [isD_hd]; exact hx) hz]
        cases cb x z with
        | none => rfl
        | some o => exact (h r).app o
theorem cu_insL (t : Tx) (c : List Ut) : ∀ r, Eqv (cu (.i t :: c) r) (cu (insI t c) r) := by
  induction c with
  | nil => intro r; exact Eqv.refl _
  | cons y c ih =>
    intro r
    cases y with
    | d u =>
      rw [insI_d, cu_d]
      exact (cu_swapL t u c r).trans ((ih r).cons _)
    | s => exact Eqv.refl _
    | k t => exact Eqv.refl _
    | i t => exact Eqv.refl _
theorem cu_linL (l : List Ut) : ∀ r, Eqv (cu l r) (cu (lin l) r) := by
  induction l with
  | nil => intro r; exact Eqv.refl _
  | cons x l ih =>
    intro r
    refine (cu_congL x l (lin l) ih r).trans ?_
    cases x with
    | i t => exact cu_insL t (lin l) r
    | s => exact Eqv.refl _
    | k t => exact Eqv.refl _
    | d t => exact Eqv.refl _

/-- in the second row -/
theorem cu_i2 (t : Tx) (c : List Ut) (p : List Ut) : Eqv (cu p (.i t :: c)) ((cu p c).map (Ut.i t :: ·)) := by
  induction p with
  | nil => rw [cu_nil_l, cu_nil_l]; rfl
  | cons x p ih =>
    cases hx : isD [x] with
    | true =>
      cases x with
      | d v => rw [cu_d, cu_d]; exact (ih.cons _).trans (Eqv.swap _ t v).symm
      | s => cases hx
      | k t => cases hx
      | i t => cases hx
    | false => rw [cu_i t _ _ (by rw [isD_hd]; exact hx)]; exact Eqv.refl _
theorem cu_swapR (t u : Tx) (c : List Ut) (p : List Ut) : Eqv (cu p (.i t :: .d u :: c)) (cu p (.d u :: .i t :: c)) := by
  induction p with
  | nil => rw [cu_nil_l, cu_nil_l]; rfl
  | cons x p ih =>
    cases hx : isD [x] with
    | true =>
      cases x with
      | d v => rw [cu_d, cu_d]; exact ih.cons _
      | s => cases hx
      | k t => cases hx
      | i t => cases hx
    | false =>
      rw [cu_i t _ _ (by rw [isD_hd]; exact hx), cu_c _ _ _ _ (by rw [isD_hd]; exact hx) rfl, cu_c _ _ _ _ (by rw [isD_hd]; exact hx) rfl]
      cases ho : cb x (.d u) with
      | none => rfl
      | some o =>
        simp only [Option.bind_some]
        rcases cb_is ho with rfl | rfl
        · exact (Eqv.swap (cu p c) t u).trans ((cu_i2 t c p).symm.cons (.d u))
        · simp only [List.nil_append, Option.map_id']
          exact (cu_i2 t c p).symm
theorem cu_congR (x : Ut) (l l' : List Ut) (h : ∀ p, Eqv (cu p l) (cu p l')) : ∀ p, Eqv (cu p (x :: l)) (cu p (x :: l')) := by
  intro p
  cases hx : isI [x] with
  | true =>
    cases x with
    | i t => exact (cu_i2 t l p).trans (((h p).cons _).trans (cu_i2 t l' p).symm)
    | s => cases hx
    | k t => cases hx
    | d t => cases hx
  | false =>
    induction p with
    | nil =>
      have := h []
      rw [cu_nil_l, cu_nil_l] at this ⊢
      exact this.cons x
    | cons z p ih =>
      cases hz : isD [z] with
      | true =>
        cases z with
        | d s => rw [cu_d, cu_d]; exact ih.cons _
        | s => cases hz
        | k t => cases hz
        | i t => cases hz
      | false =>
        rw [cu_c _ _ _ _ (by rw [isD_hd]; exact hz) (by rw [isI_hd]; exact hx), cu_c _ _ _ _ (by rw [isD_hd]; exact hz) (by rw [isI_hd]; exact hx)]
        cases cb z x with
        | none => rfl
        | some o => exact (h p).app o
theorem cu_insR (t : Tx) (c : List Ut) : ∀ p, Eqv (cu p (.i t :: c)) (cu p (insI t c)) := by
  induction c with
  | nil => intro p; exact Eqv.refl _
  | cons y c ih =>
    intro p
    cases y with
    | d u =>
      rw [insI_d]
      exact (cu_swapR t u c p).trans (cu_congR (.d u) (.i t :: c) (insI t c) ih p)
    | s => exact Eqv.refl _
    | k t => exact Eqv.refl _
    | i t => exact Eqv.refl _
theorem cu_linR (l : List Ut) : ∀ p, Eqv (cu p l) (cu p (lin l)) := by
  induction l with
  | nil => intro p; exact Eqv.refl _
  | cons x l ih =>
    intro p
    refine (cu_congR x l (lin l) ih p).trans ?_
    cases x with
    | i t => exact cu_insR t (lin l) p
    | s => exact Eqv.refl _
    | k t => exact Eqv.refl _
    | d t => exact Eqv.refl _
/-- rows that are one, but for the order, do one, but for the order -/
theorem cu_eqv {l l' r r' : List Ut} (h1 : lin l = lin l') (h2 : lin r = lin r') : Eqv (cu l r) (cu l' r') :=
  (cu_linL l r).trans (by
    rw [h1]
    exact (cu_linL l' r).symm.trans ((cu_linR r l').trans (by rw [h2]; exact (cu_linR r' l').symm)))
/-- of three it is one which two are put together first, and put in order first -/
theorem cu_three {p q r a a' b b' x y : List Ut} (h1 : cu p q = some a) (h2 : lin a' = lin a) (h3 : cu a' r = some x) (h4 : cu q r = some b) (h5 : lin b' = lin b) (h6 : cu p b' = some y) : lin x = lin y := by
  have e1 := cu_eqv h2 (rfl : lin r = lin r)
  rw [h3] at e1
  obtain ⟨x', hx, ex⟩ := e1.out
  have e2 := cu_eqv (rfl : lin p = lin p) h5
  rw [h6] at e2
  obtain ⟨y', hy, ey⟩ := e2.out
  rw [ex, ey, cu_assoc (p.length + q.length + r.length + 1) p q r a b x' y' (Nat.lt_succ_self _) h1 hx h4 hy]

end Go.Proofs.Ytbmnflldjkcgnaa.Ol


/-
  Plain laws of two rows of steps of one line each, one behind the other, where behind a line of the middle that is known and open no other line of the middle may come: that the order of what goes and what comes turns nothing, and that turned back they are the second turned back and then the first; no condition but those that each states.
-/
import Derived.Test.YtbmnflldjkcgnaaCEx
namespace Go.Proofs.Ytbmnflldjkcgnaa.Ol
open Go.Proofs.Ytbmnflldjkcgnaa.Ln

/-- is a line known, and open? -/
def opU : Ut → Bool
  | .s => false
  | .k t => !cl t
  | .d t => !cl t
  | .i t => !cl t
def hdU : List Ut → Ut
  | [] => .s
  | x :: _ => x
theorem hdU_cons (x : Ut) (l : List Ut) : hdU (x :: l) = x := rfl
theorem hdU_nil : hdU [] = .s := rfl
/-- two rows, one behind the other; e: does the middle end with an open line? -/
def ce (e : Bool) (p q : List Ut) : Option (List Ut) :=
  match p with
  | .d t :: p' => (ce e p' q).map (Ut.d t :: ·)
  | p => match q with
    | .i t :: q' => (ce e p q').map (Ut.i t :: ·)
    | q =>
      if p.isEmpty && q.isEmpty then some []
      else if e then none
      else (cb (hdU p) (hdU q)).bind fun o => (ce (opU (hdU p) || opU (hdU q)) p.tail q.tail).map (o ++ ·)
termination_by p.length + q.length
decreasing_by
  · simp_all
  · simp_all
  · rename_i h _ ; cases p <;> cases q <;> simp_all <;> omega

theorem ce_d (e : Bool) (t : Tx) (p q : List Ut) : ce e (.d t :: p) q = (ce e p q).map (Ut.d t :: ·) := by rw [ce.eq_def]
theorem ce_i (e : Bool) (t : Tx) (p q : List Ut) (h : isD p = false) : ce e p (.i t :: q) = (ce e p q).map (Ut.i t :: ·) := by
  rw [ce.eq_def]
  cases p with
  | nil => rfl
  | cons x p => cases x <;> first | rfl | (simp [isD] at h)
theorem ce_nil (e : Bool) : ce e [] [] = some [] := by rw [ce.eq_def]; rfl
theorem ce_c (e : Bool) (p q : List Ut) (h : isD p = false) (h2 : isI q = false) (h3 : (p.isEmpty && q.isEmpty) = false) : ce e p q = if e then none else (cb (hdU p) (hdU q)).bind fun o => (ce (opU (hdU p) || opU (hdU q)) p.tail q.tail).map (o ++ ·) := by
  rw [ce.eq_def]
  cases p with
  | nil =>
    cases q with
    | nil => cases h3
    | cons y q => cases y <;> first | (simp [isI] at h2; done) | rfl
  | cons x p =>
    cases q with
    | nil => cases x <;> first | (simp [isD] at h; done) | rfl
    | cons y q => cases x <;> first | (simp [isD] at h; done) | (cases y <;> first | (simp [isI] at h2; done) | rfl)

theorem cu_pad (p q : List Ut) (h : isD p = false) (h2 : isI q = false) (h3 : (p.isEmpty && q.isEmpty) = false) : cu p q = (cb (hdU p) (hdU q)).bind fun o => (cu p.tail q.tail).map (o ++ ·) := by
  cases p with
  | nil =>
    cases q with
    | nil => cases h3
    | cons y q =>
      rw [cu_nil_l]
      show _ = (cb Ut.s y).bind fun o => (cu [] q).map (o ++ ·)
      rw [cu_nil_l]
      cases y <;> first | (simp [isI] at h2; done) | rfl
  | cons x p =>
    cases q with
    | nil =>
      rw [cu_nil_r]
      show _ = (cb x Ut.s).bind fun o => (cu p []).map (o ++ ·)
      rw [cu_nil_r]
      cases x <;> first | (simp [isD] at h; done) | rfl
    | cons y q => exact cu_c x y p q h h2
theorem isD_is {p : List Ut} (h : isD p = true) : ∃ t p', p = .d t :: p' := by
  cases p with
  | nil => cases h
  | cons x p => cases x with
    | d t => exact ⟨t, p, rfl⟩
    | s => cases h
    | k t => cases h
    | i t => cases h
theorem isI_is {p : List Ut} (h : isI p = true) : ∃ t p', p = .i t :: p' := by
  cases p with
  | nil => cases h
  | cons x p => cases x with
    | i t => exact ⟨t, p, rfl⟩
    | s => cases h
    | k t => cases h
    | d t => cases h
theorem both_tail {p q : List Ut} {n : Nat} (h3 : (p.isEmpty && q.isEmpty) = false) (hn : p.length + q.length < n + 1) : p.tail.length + q.tail.length < n := by
  cases p <;> cases q <;> simp at h3 hn ⊢ <;> omega
theorem both_nil {p q : List Ut} (h3 : (p.isEmpty && q.isEmpty) = true) : p = [] ∧ q = [] := by
  cases p <;> cases q <;> simp at h3 ⊢
theorem bindE {o : Option (List Ut)} {f : List Ut → Option (List Ut)} {a : List Ut} (h : o.bind f = some a) : ∃ b, o = some b ∧ f b = some a := Option.bind_eq_some_iff.1 h
/-- what is told is what they are -/
theorem ce_cu (n : Nat) : ∀ (e : Bool) (p q a : List Ut), p.length + q.length < n → ce e p q = some a → cu p q = some a := by
  induction n with
  | zero => intro e p q a hn; omega
  | succ n ih =>
    intro e p q a hn h
    cases hp : isD p with
    | true =>
      obtain ⟨t, p', rfl⟩ := isD_is hp
      rw [ce_d] at h
      obtain ⟨a', ha, rfl⟩ := map_of h
      rw [cu_d, ih e p' q a' (by simp at hn; omega) ha]; rfl
    | false =>
      cases hq : isI q with
      | true =>
        obtain ⟨t, q', rfl⟩ := isI_is hq
        rw [ce_i e t p q' hp] at h
        obtain ⟨a', ha, rfl⟩ := map_of h
        rw [cu_i t p q' hp, ih e p q' a' (by simp at hn; omega) ha]; rfl
      | false =>
        cases h3 : (p.isEmpty && q.isEmpty) with
        | true => obtain ⟨rfl, rfl⟩ := both_nil h3; rw [ce_nil] at h; rw [cu_nil_l]; exact h
        | false =>
          rw [ce_c e p q hp hq h3] at h
          rw [cu_pad p q hp hq h3]
          cases e with
          | true => cases h
          | false =>
            simp only [Bool.false_eq_true, if_false] at h
            obtain ⟨o, ho, h⟩ := bindE h
            obtain ⟨a', ha, rfl⟩ := map_of h
            rw [ho, Option.bind_some, ih _ _ _ a' (both_tail h3 hn) ha]; rfl

theorem ce_swapL (t u : Tx) (c : List Ut) (r : List Ut) : ∀ e, Eqv (ce e (.i t :: .d u :: c) r) ((ce e (.i t :: c) r).map (Ut.d u :: ·)) := by
  induction r with
  | nil =>
    intro e
    rw [ce_c e _ _ rfl rfl rfl, ce_c e _ _ rfl rfl rfl]
    cases e with
    | true => rfl
    | false =>
      simp only [Bool.false_eq_true, if_false, hdU_cons, hdU_nil, cb, Option.bind_some, List.tail_cons, List.tail_nil]
      rw [ce_d]
      exact Eqv.swap _ t u
  | cons z r ih =>
    intro e
    cases hz : isI (z :: r) with
    | true =>
      obtain ⟨s, r', h⟩ := isI_is hz
      cases h
      rw [ce_i e s _ _ rfl, ce_i e s _ _ rfl]
      exact ((ih e).cons (.i s)).trans (Eqv.swap _ s u)
    | false =>
      rw [ce_c e _ _ rfl hz rfl, ce_c e _ _ rfl hz rfl]
      cases e with
      | true => rfl
      | false =>
        simp only [Bool.false_eq_true, if_false, hdU_cons, List.tail_cons]
        rw [ce_d]
        cases ho : cb (.i t) z with
        | none => rfl
        | some o =>
          simp only [Option.bind_some]
          rcases cb_i ho with rfl | rfl
          · exact Eqv.swap _ t u
          · simp only [List.nil_append, Option.map_id']
            exact Eqv.refl _
theorem ce_congL (x : Ut) (l l' : List Ut) (h : ∀ e r, Eqv (ce e l r) (ce e l' r)) : ∀ e r, Eqv (ce e (x :: l) r) (ce e (x :: l') r) := by
  intro e r
  cases hx : isD [x] with
  | true =>
    obtain ⟨t, _, h2⟩ := isD_is hx
    cases h2
    rw [ce_d, ce_d]; exact (h e r).cons _
  | false =>
    induction r generalizing e with
    | nil =>
      rw [ce_c e _ _ (by rw [isD_hd]; exact hx) rfl rfl, ce_c e _ _ (by rw [isD_hd]; exact hx) rfl rfl]
      cases e with
      | true => rfl
      | false =>
        simp only [Bool.false_eq_true, if_false, hdU_cons, hdU_nil, List.tail_cons, List.tail_nil]
        cases cb x Ut.s with
        | none => rfl
        | some o => exact (h _ []).app o
    | cons z r ih =>
      cases hz : isI (z :: r) with
      | true =>
        obtain ⟨s, r', h2⟩ := isI_is hz
        cases h2
        rw [ce_i e s _ _ (by rw [isD_hd]; exact hx), ce_i e s _ _ (by rw [isD_hd]; exact hx)]; exact (ih e).cons _
      | false =>
        rw [ce_c e _ _ (by rw [isD_hd]; exact hx) hz rfl, ce_c e _ _ (by rw [isD_hd]; exact hx) hz rfl]
        cases e with
        | true => rfl
        | false =>
          simp only [Bool.false_eq_true, if_false, hdU_cons, List.tail_cons]
          cases cb x z with
          | none => rfl
          | some o => exact (h _ r).app o
theorem ce_insL (t : Tx) (c : List Ut) : ∀ e r, Eqv (ce e (.i t :: c) r) (ce e (insI t c) r) := by
  induction c with
  | nil => intro e r; exact Eqv.refl _
  | cons y c ih =>
    intro e r
    cases y with
    | d u =>
      rw [insI_d, ce_d]
      exact (ce_swapL t u c r e).trans ((ih e r).cons _)
    | s => exact Eqv.refl _
    | k t => exact Eqv.refl _
    | i t => exact Eqv.refl _
theorem ce_linL (l : List Ut) : ∀ e r, Eqv (ce e l r) (ce e (lin l) r) := by
  induction l with
  | nil => intro e r; exact Eqv.refl _
  | cons x l ih =>
    intro e r
    refine (ce_congL x l (lin l) ih e r).trans ?_
    cases x with
    | i t => exact ce_insL t (lin l) e r
    | s => exact Eqv.refl _
    | k t => exact Eqv.refl _
    | d t => exact Eqv.refl _
theorem ce_i2 (t : Tx) (c : List Ut) (p : List Ut) : ∀ e, Eqv (ce e p (.i t :: c)) ((ce e p c).map (Ut.i t :: ·)) := by
  induction p with
  | nil => intro e; rw [ce_i e t [] c rfl]; exact Eqv.refl _
  | cons x p ih =>
    intro e
    cases hx : isD [x] with
    | true =>
      obtain ⟨v, _, h2⟩ := isD_is hx
      cases h2
      rw [ce_d, ce_d]; exact ((ih e).cons _).trans (Eqv.swap _ t v).symm
    | false => rw [ce_i e t _ _ (by rw [isD_hd]; exact hx)]; exact Eqv.refl _
theorem ce_swapR (t u : Tx) (c : List Ut) (p : List Ut) : ∀ e, Eqv (ce e p (.i t :: .d u :: c)) (ce e p (.d u :: .i t :: c)) := by
  have key : ∀ e p, isD p = false → Eqv (ce e p (.i t :: .d u :: c)) (ce e p (.d u :: .i t :: c)) := by
    intro e p hp
    rw [ce_i e t _ _ hp, ce_c e p _ hp rfl (by simp), ce_c e p _ hp rfl (by simp)]
    cases e with
    | true => rfl
    | false =>
      simp only [Bool.false_eq_true, if_false, hdU_cons, List.tail_cons]
      cases ho : cb (hdU p) (.d u) with
      | none => rfl
      | some o =>
        simp only [Option.bind_some]
        rcases cb_is ho with rfl | rfl
        · exact (Eqv.swap _ t u).trans ((ce_i2 t c p.tail _).symm.cons (.d u))
        · simp only [List.nil_append, Option.map_id']
          exact (ce_i2 t c p.tail _).symm
  induction p with
  | nil => intro e; exact key e [] rfl
  | cons x p ih =>
    intro e
    cases hx : isD [x] with
    | true =>
      obtain ⟨v, _, h2⟩ := isD_is hx
      cases h2
      rw [ce_d, ce_d]; exact (ih e).cons _
    | false => exact key e (x :: p) (by rw [isD_hd]; exact hx)
theorem ce_congR (x : Ut) (l l' : List Ut) (h : ∀ e p, Eqv (ce e p l) (ce e p l')) : ∀ e p, Eqv (ce e p (x :: l)) (ce e p (x :: l')) := by
  intro e p
  cases hx : isI [x] with
  | true =>
    obtain ⟨t, _, h2⟩ := isI_is hx
    cases h2
    exact (ce_i2 t l p e).trans (((h e p).cons _).trans (ce_i2 t l' p e).symm)
  | false =>
    have key : ∀ e p, isD p = false → Eqv (ce e p (x :: l)) (ce e p (x :: l')) := by
      intro e p hp
      rw [ce_c e p _ hp (by rw [isI_hd]; exact hx) (by simp), ce_c e p _ hp (by rw [isI_hd]; exact hx) (by simp)]
      cases e with
      | true => rfl
      | false =>
        simp only [Bool.false_eq_true, if_false, hdU_cons, List.tail_cons]
        cases cb (hdU p) x with
        | none => rfl
        | some o => exact (h _ p.tail).app o
    induction p generalizing e with
    | nil => exact key e [] rfl
    | cons z p ih =>
      cases hz : isD [z] with
      | true =>
        obtain ⟨v, _, h2⟩ := isD_is hz
        cases h2
        rw [ce_d, ce_d]; exact (ih e).cons _
      | false => exact key e (z :: p) (by rw [isD_hd]; exact hz)
theorem ce_insR (t : Tx) (c : List Ut) : ∀ e p, Eqv (ce e p (.i t :: c)) (ce e p (insI t c)) := by
  induction c with
  | nil => intro e p; exact Eqv.refl _
  | cons y c ih =>
    intro e p
    cases y with
    | d u =>
      rw [insI_d]
      exact (ce_swapR t u c p e).trans (ce_congR (.d u) (.i t :: c) (insI t c) ih e p)
    | s => exact Eqv.refl _
    | k t => exact Eqv.refl _
    | i t => exact Eqv.refl _
theorem ce_linR (l : List Ut) : ∀ e p, Eqv (ce e p l) (ce e p (lin l)) := by
  induction l with
  | nil => intro e p; exact Eqv.refl _
  | cons x l ih =>
    intro e p
    refine (ce_congR x l (lin l) ih e p).trans ?_
    cases x with
    | i t => exact ce_insR t (lin l) e p
    | s => exact Eqv.refl _
    | k t => exact Eqv.refl _
    | d t => exact Eqv.refl _
theorem ce_eqv {e : Bool} {l l' r r' : List Ut} (h1 : lin l = lin l') (h2 : lin r = lin r') : Eqv (ce e l r) (ce e l' r') :=
  (ce_linL l e r).trans (by
    rw [h1]
    exact (ce_linL l' e r).symm.trans ((ce_linR r e l').trans (by rw [h2]; exact (ce_linR r' e l').symm)))

/-- turned back -/
def fu1 : Ut → Ut
  | .d t => .i t
  | .i t => .d t
  | x => x
def fu (l : List Ut) : List Ut := l.map fu1
theorem fu_hd (l : List Ut) : hdU (fu l) = fu1 (hdU l) ∧ (fu l).tail = fu l.tail ∧ (fu l).isEmpty = l.isEmpty := by
  cases l <;> exact ⟨rfl, rfl, rfl⟩
theorem fu_isD (l : List Ut) : isD (fu l) = isI l ∧ isI (fu l) = isD l := by
  cases l with
  | nil => exact ⟨rfl, rfl⟩
  | cons x l => cases x <;> exact ⟨rfl, rfl⟩
theorem fu_op (x : Ut) : opU (fu1 x) = opU x := by cases x <;> rfl
theorem cb_fu {x y : Ut} (hx : isD [x] = false) (hy : isI [y] = false) : cb (fu1 y) (fu1 x) = (cb x y).map fu := by
  cases x <;> cases y <;> simp [isD, isI] at hx hy <;> simp only [fu1, cb] <;> (try rfl) <;> rename_i a b <;> (by_cases h : a = b; (subst h; simp [fu, fu1]); (have h2 : ¬ b = a := fun e => h e.symm; simp [h, h2]))
theorem fu_map (f : Option (List Ut)) (o : List Ut) : (f.map (o ++ ·)).map fu = (f.map fu).map (fu o ++ ·) := by
  cases f with
  | none => rfl
  | some a => simp [fu]
theorem fu_cons (f : Option (List Ut)) (x : Ut) : (f.map (x :: ·)).map fu = (f.map fu).map (fu1 x :: ·) := by
  cases f with
  | none => rfl
  | some a => simp [fu]
/-- turned back they are the second turned back, and then the first -/
theorem ce_fu (n : Nat) : ∀ (e : Bool) (p q : List Ut), p.length + q.length < n → Eqv (ce e (fu q) (fu p)) ((ce e p q).map fu) := by
  induction n with
  | zero => intro e p q hn; omega
  | succ n ih =>
    intro e p q hn
    cases hp : isD p with
    | true =>
      obtain ⟨t, p', rfl⟩ := isD_is hp
      rw [ce_d, fu_cons]
      exact (ce_i2 t (fu p') (fu q) e).trans ((ih e p' q (by simp at hn; omega)).cons (.i t))
    | false =>
      cases hq : isI q with
      | true =>
        obtain ⟨t, q', rfl⟩ := isI_is hq
        rw [ce_i e t p q' hp, fu_cons]
        show Eqv (ce e (.d t :: fu q') (fu p)) _
        rw [ce_d]
        exact (ih e p q' (by simp at hn; omega)).cons (.d t)
      | false =>
        cases h3 : (p.isEmpty && q.isEmpty) with
        | true => obtain ⟨rfl, rfl⟩ := both_nil h3; show Eqv (ce e [] []) ((ce e [] []).map fu); rw [ce_nil]; exact Eqv.refl _
        | false =>
          rw [ce_c e p q hp hq h3, ce_c e (fu q) (fu p) (by rw [(fu_isD q).1]; exact hq) (by rw [(fu_isD p).2]; exact hp) (by rw [(fu_hd q).2.2, (fu_hd p).2.2, Bool.and_comm]; exact h3)]
          cases e with
          | true => rfl
          | false =>
            simp only [Bool.false_eq_true, if_false]
            rw [(fu_hd q).1, (fu_hd p).1, (fu_hd q).2.1, (fu_hd p).2.1, fu_op, fu_op, Bool.or_comm]
            have hx : isD [hdU p] = false := by cases p with | nil => rfl | cons x p => rw [isD_hd] at hp; exact hp
            have hy : isI [hdU q] = false := by cases q with | nil => rfl | cons x p => rw [isI_hd] at hq; exact hq
            rw [cb_fu hx hy]
            cases cb (hdU p) (hdU q) with
            | none => rfl
            | some o =>
              simp only [Option.map_some, Option.bind_some]
              rw [fu_map]
              exact (ih _ p.tail q.tail (both_tail h3 hn)).app (fu o)

end Go.Proofs.Ytbmnflldjkcgnaa.Ol

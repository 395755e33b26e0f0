
/-
  Plain laws of two rows of steps of one line each, one behind the other, where behind a line of the middle that is known and open no other line of the middle may come: that the order of what goes and what comes turns nothing, and that turned back they are the second turned back and then the first; no condition but those that each states.
-/
import Derived.Test.YtcdjemheokmglabFPlain
namespace Go.Proofs.Ytcdjemheokmglab.Ol
open Go.Proofs.Ytcdjemheokmglab.Ln

/-- steps of one line each: a line that is not known, one that stays, one that goes, one that comes -/
inductive Ut where
  | s | k (t : Tx) | d (t : Tx) | i (t : Tx)

/-- a line of the middle: what is left of what both make of it -/
def cb : Ut → Ut → Option (List Ut)
  | .s, .s => some [.s]
  | .s, .k t => some [.k t]
  | .s, .d t => some [.d t]
  | .k t, .s => some [.k t]
  | .k t, .k u => if t = u then some [.k t] else none
  | .k t, .d u => if t = u then some [.d t] else none
  | .i t, .s => some [.i t]
  | .i t, .k u => if t = u then some [.i t] else none
  | .i t, .d u => if t = u then some [] else none
  | _, _ => none
def isD : List Ut → Bool
  | .d _ :: _ => true
  | _ => false
def isI : List Ut → Bool
  | .i _ :: _ => true
  | _ => false
/-- two rows, one behind the other -/
def cu (p q : List Ut) : Option (List Ut) :=
  match p with
  | .d t :: p' => (cu p' q).map (Ut.d t :: ·)
  | p => match q with
    | .i t :: q' => (cu p q').map (Ut.i t :: ·)
    | q => match p, q with
      | [], q => some q
      | p, [] => some p
      | x :: p', y :: q' => (cb x y).bind fun o => (cu p' q').map (o ++ ·)
termination_by p.length + q.length
decreasing_by all_goals (simp_all; try omega)

theorem cu_d (t : Tx) (p q : List Ut) : cu (.d t :: p) q = (cu p q).map (Ut.d t :: ·) := by rw [cu.eq_def]
theorem cu_i (t : Tx) (p q : List Ut) (h : isD p = false) : cu p (.i t :: q) = (cu p q).map (Ut.i t :: ·) := by
  rw [cu.eq_def]
  cases p with
  | nil => rfl
  | cons x p => cases x <;> first | rfl | (simp [isD] at h)
theorem cu_c (x y : Ut) (p q : List Ut) (h : isD (x :: p) = false) (h2 : isI (y :: q) = false) : cu (x :: p) (y :: q) = (cb x y).bind fun o => (cu p q).map (o ++ ·) := by
  rw [cu.eq_def]
  cases x <;> first | (simp [isD] at h; done) | (cases y <;> first | (simp [isI] at h2; done) | rfl)
theorem cu_nil_l (q : List Ut) : cu [] q = some q := by
  induction q with
  | nil => rw [cu.eq_def]
  | cons y q ih =>
    cases y with
    | i t => rw [cu_i t [] q rfl, ih]; rfl
    | s => rw [cu.eq_def]
    | k t => rw [cu.eq_def]
    | d t => rw [cu.eq_def]
theorem cu_nil_r (p : List Ut) : cu p [] = some p := by
  induction p with
  | nil => rw [cu.eq_def]
  | cons x p ih =>
    cases x with
    | d t => rw [cu_d, ih]; rfl
    | s => rw [cu.eq_def]
    | k t => rw [cu.eq_def]
    | i t => rw [cu.eq_def]

theorem cb_assoc {x y z w v : Ut} {o2 o3 : List Ut} (h1 : cb x y = some [w]) (h2 : cb y z = some [v]) (h3 : cb w z = some o2) (h4 : cb x v = some o3) : o2 = o3 := by
  cases x <;> cases y <;> simp [cb] at h1 <;> (try obtain ⟨e1, e2⟩ := h1) <;> subst_vars <;> cases z <;> simp [cb] at h2 <;> (try obtain ⟨e3, e4⟩ := h2) <;> subst_vars <;> simp [cb] at h3 h4 <;> first | (simp_all; done) | (obtain ⟨e5, e6⟩ := h3; obtain ⟨e7, e8⟩ := h4; subst_vars; rfl) | (obtain ⟨e5, e6⟩ := h3; subst_vars; simp_all)

theorem map_of {f : List Ut → List Ut} {o : Option (List Ut)} {a : List Ut} (h : o.map f = some a) : ∃ b, o = some b ∧ a = f b := by
  obtain ⟨b, h1, h2⟩ := Option.map_eq_some_iff.1 h
  exact ⟨b, h1, h2.symm⟩
theorem bind_of {x y : Ut} {p q a : List Ut} (h : ((cb x y).bind fun o => (cu p q).map (o ++ ·)) = some a) : ∃ o b, cb x y = some o ∧ cu p q = some b ∧ a = o ++ b := by
  obtain ⟨o, h1, h2⟩ := Option.bind_eq_some_iff.1 h
  obtain ⟨b, h3, h4⟩ := map_of h2
  exact ⟨o, b, h1, h3, h4⟩
/-- what a line of the middle leaves -/
theorem cb_is {x : Ut} {u : Tx} {o : List Ut} (h : cb x (.d u) = some o) : o = [.d u] ∨ o = [] := by
  cases x <;> simp [cb] at h
  · exact Or.inl h.symm
  · exact Or.inl (by rw [← h.2, h.1])
  · exact Or.inr h.2
theorem cb_i {t : Tx} {z : Ut} {o : List Ut} (h : cb (.i t) z = some o) : o = [.i t] ∨ o = [] := by
  cases z <;> simp [cb] at h
  · exact Or.inl h.symm
  · exact Or.inl h.2.symm
  · exact Or.inr h.2
/-- what no Del and no Ins leaves -/
theorem cb_one {x y : Ut} {o : List Ut} (hx : isD [x] = false) (hy : isI [y] = false) (hyd : isD [y] = false) (h : cb x y = some o) : ∃ w, o = [w] ∧ isD [w] = false := by
  cases x <;> cases y <;> simp [cb, isD, isI] at h hx hy hyd
  · exact ⟨_, h.symm, rfl⟩
  · exact ⟨_, h.symm, rfl⟩
  · exact ⟨_, h.symm, rfl⟩
  · exact ⟨_, h.2.symm, rfl⟩
  · exact ⟨_, h.symm, rfl⟩
  · exact ⟨_, h.2.symm, rfl⟩
theorem cb_two {y z : Ut} {o : List Ut} (hy : isI [y] = false) (hyd : isD [y] = false) (hz : isI [z] = false) (h : cb y z = some o) : ∃ v, o = [v] ∧ isI [v] = false := by
  cases y <;> cases z <;> simp [cb, isD, isI] at h hy hyd hz
  · exact ⟨_, h.symm, rfl⟩
  · exact ⟨_, h.symm, rfl⟩
  · exact ⟨_, h.symm, rfl⟩
  · exact ⟨_, h.symm, rfl⟩
  · exact ⟨_, h.2.symm, rfl⟩
  · exact ⟨_, h.2.symm, rfl⟩
theorem isD_hd (x : Ut) (l : List Ut) : isD (x :: l) = isD [x] := by cases x <;> rfl
theorem isI_hd (x : Ut) (l : List Ut) : isI (x :: l) = isI [x] := by cases x <;> rfl

/-- of three it is one which two are put together first -/
theorem cu_assoc (n : Nat) : ∀ (p q r a b x y : List Ut), p.length + q.length + r.length < n → cu p q = some a → cu a r = some x → cu q r = some b → cu p b = some y → x = y := by
  induction n with
  | zero => intro p q r a b x y hn; omega
  | succ n ih =>
    intro p q r a b x y hn h1 h2 h3 h4
    cases p with
    | nil => rw [cu_nil_l] at h1 h4; cases h1; cases h4; rw [h2] at h3; cases h3; rfl
    | cons p0 p =>
      cases hp : isD (p0 :: p) with
      | true =>
        cases p0 with
        | d t =>
          rw [cu_d] at h1 h4
          obtain ⟨a', ha, rfl⟩ := map_of h1
          obtain ⟨y', hy, rfl⟩ := map_of h4
          rw [cu_d] at h2
          obtain ⟨x', hx, rfl⟩ := map_of h2
          rw [ih p q r a' b x' y' (by simp at hn; omega) ha hx h3 hy]
        | s => cases hp
        | k t => cases hp
        | i t => cases hp
      | false =>
        cases q with
        | nil => rw [cu_nil_r] at h1; rw [cu_nil_l] at h3; cases h1; cases h3; rw [h2] at h4; cases h4; rfl
        | cons q0 q =>
          cases hq : isI (q0 :: q) with
          | true =>
            cases q0 with
            | i t =>
              have h1' := h1
              rw [cu_i t _ _ hp] at h1
              obtain ⟨a', ha, rfl⟩ := map_of h1
              cases r with
              | nil =>
                rw [cu_nil_r] at h2 h3; cases h2; cases h3
                rw [h1'] at h4; cases h4; rfl
              | cons r0 r =>
                cases hr : isI (r0 :: r) with
                | true =>
                  cases r0 with
                  | i s =>
                    rw [cu_i s _ _ rfl] at h2 h3
                    obtain ⟨x', hx, rfl⟩ := map_of h2
                    obtain ⟨b', hb, rfl⟩ := map_of h3
                    rw [cu_i s _ _ hp] at h4
                    obtain ⟨y', hy, rfl⟩ := map_of h4
                    rw [ih (p0 :: p) (.i t :: q) r (.i t :: a') b' x' y' (by simp at hn ⊢; omega) h1' hx hb hy]
                  | s => cases hr
                  | k t => cases hr
                  | d t => cases hr
                | false =>
                  rw [cu_c _ _ _ _ rfl hr] at h2 h3
                  obtain ⟨o, x', ho, hx, rfl⟩ := bind_of h2
                  obtain ⟨o', b', ho', hb, rfl⟩ := bind_of h3
                  rw [ho] at ho'; cases ho'
                  rcases cb_i ho with rfl | rfl
                  · rw [List.singleton_append, cu_i t _ _ hp] at h4
                    obtain ⟨y', hy, rfl⟩ := map_of h4
                    rw [ih (p0 :: p) q r a' b' x' y' (by simp at hn ⊢; omega) ha hx hb hy]; rfl
                  · rw [List.nil_append] at h4
                    rw [ih (p0 :: p) q r a' b' x' y (by simp at hn ⊢; omega) ha hx hb h4]; rfl
            | s => cases hq
            | k t => cases hq
            | d t => cases hq
          | false =>
            have h1' := h1
            rw [cu_c _ _ _ _ hp hq] at h1
            obtain ⟨o, a', ho, ha, rfl⟩ := bind_of h1
            cases hqd : isD (q0 :: q) with
            | true =>
              cases q0 with
              | d u =>
                rw [cu_d] at h3
                obtain ⟨b', hb, rfl⟩ := map_of h3
                rw [cu_c _ _ _ _ hp rfl] at h4
                obtain ⟨o', y', ho', hy, rfl⟩ := bind_of h4
                rw [ho] at ho'; cases ho'
                rcases cb_is ho with rfl | rfl
                · rw [List.singleton_append, cu_d] at h2
                  obtain ⟨x', hx, rfl⟩ := map_of h2
                  rw [ih p q r a' b' x' y' (by simp at hn ⊢; omega) ha hx hb hy]; rfl
                · rw [List.nil_append] at h2
                  rw [ih p q r a' b' x y' (by simp at hn ⊢; omega) ha h2 hb hy]; rfl
              | s => cases hqd
              | k t => cases hqd
              | i t => cases hqd
            | false =>
              rw [isD_hd] at hp hqd
              rw [isI_hd] at hq
              obtain ⟨w, rfl, hw⟩ := cb_one hp hq hqd ho
              cases r with
              | nil =>
                rw [cu_nil_r] at h2 h3; cases h2; cases h3
                rw [h1'] at h4; cases h4; rfl
              | cons r0 r =>
                cases hr : isI (r0 :: r) with
                | true =>
                  cases r0 with
                  | i s =>
                    rw [cu_i s _ _ (by rw [List.singleton_append, isD_hd]; exact hw)] at h2
                    rw [cu_i s _ _ (by rw [isD_hd]; exact hqd)] at h3
                    obtain ⟨x', hx, rfl⟩ := map_of h2
                    obtain ⟨b', hb, rfl⟩ := map_of h3
                    rw [cu_i s _ _ (by rw [isD_hd]; exact hp)] at h4
                    obtain ⟨y', hy, rfl⟩ := map_of h4
                    rw [ih (p0 :: p) (q0 :: q) r ([w] ++ a') b' x' y' (by simp at hn ⊢; omega) h1' hx hb hy]
                  | s => cases hr
                  | k t => cases hr
                  | d t => cases hr
                | false =>
                  rw [List.singleton_append, cu_c _ _ _ _ (by rw [isD_hd]; exact hw) hr] at h2
                  rw [cu_c _ _ _ _ (by rw [isD_hd]; exact hqd) hr] at h3
                  obtain ⟨o2, x', ho2, hx, rfl⟩ := bind_of h2
                  obtain ⟨ov, b', hov, hb, rfl⟩ := bind_of h3
                  rw [isI_hd] at hr
                  obtain ⟨v, rfl, hv⟩ := cb_two hq hqd hr hov
                  rw [List.singleton_append, cu_c _ _ _ _ (by rw [isD_hd]; exact hp) (by rw [isI_hd]; exact hv)] at h4
                  obtain ⟨o3, y', ho3, hy, rfl⟩ := bind_of h4
                  rw [cb_assoc ho hov ho2 ho3, ih p q r a' b' x' y' (by simp at hn ⊢; omega) ha hx hb hy]

end Go.Proofs.Ytcdjemheokmglab.Ol

namespace Go.Proofs.Ytcdjemheokmglab.Ol
open Go.Proofs.Ytcdjemheokmglab.Ln

/-- a line that comes, behind what goes -/
def insI (t : Tx) : List Ut → List Ut
  | .d u :: c => .d u :: insI t c
  | c => .i t :: c
def consN : Ut → List Ut → List Ut
  | .i t, c => insI t c
  | x, c => x :: c
/-- a row in order: what goes ahead of what comes -/
def lin : List Ut → List Ut
  | [] => []
  | x :: l => consN x (lin l)
/-- two outcomes are one, but for the order -/
def Eqv (a b : Option (List Ut)) : Prop := a.map lin = b.map lin
theorem Eqv.refl (a : Option (List Ut)) : Eqv a a := rfl
theorem Eqv.trans {a b c : Option (List Ut)} (h1 : Eqv a b) (h2 : Eqv b c) : Eqv a c := Eq.trans h1 h2
theorem Eqv.symm {a b : Option (List Ut)} (h : Eqv a b) : Eqv b a := Eq.symm h
theorem Eqv.cons {a b : Option (List Ut)} (h : Eqv a b) (x : Ut) : Eqv (a.map (x :: ·)) (b.map (x :: ·)) := by
  unfold Eqv at *
  cases a with
  | none => cases b with
    | none => rfl
    | some b => cases h
  | some a => cases b with
    | none => cases h
    | some b =>
      simp only [Option.map_some, Option.some.injEq] at h ⊢
      simp only [lin, h]
theorem Eqv.app {a b : Option (List Ut)} (h : Eqv a b) (o : List Ut) : Eqv (a.map (o ++ ·)) (b.map (o ++ ·)) := by
  induction o with
  | nil => simpa using h
  | cons x o ih =>
    have := ih.cons x
    simp only [Option.map_map] at this
    exact this
theorem insI_d (t u : Tx) (c : List Ut) : insI t (.d u :: c) = .d u :: insI t c := rfl
/-- what comes and what goes change places -/
theorem Eqv.swap (a : Option (List Ut)) (t u : Tx) : Eqv ((a.map (Ut.d u :: ·)).map (Ut.i t :: ·)) ((a.map (Ut.i t :: ·)).map (Ut.d u :: ·)) := by
  cases a with
  | none => rfl
  | some a => rfl
theorem Eqv.some_iff {a b : List Ut} : Eqv (some a) (some b) ↔ lin a = lin b := by simp [Eqv]
theorem Eqv.out {a : List Ut} {b : Option (List Ut)} (h : Eqv (some a) b) : ∃ c, b = some c ∧ lin a = lin c := by
  cases b with
  | none => cases h
  | some b => exact ⟨b, rfl, Eqv.some_iff.1 h⟩
theorem bind_app (x z : Ut) (f : Option (List Ut)) : ((cb x z).bind fun o => f.map (o ++ ·)) = match cb x z with | none => none | some o => f.map (o ++ ·) := by
  cases cb x z <;> rfl

/-- in the first row -/
theorem cu_swapL (t u : Tx) (c : List Ut) (r : List Ut) : Eqv (cu (.i t :: .d u :: c) r) ((cu (.i t :: c) r).map (Ut.d u :: ·)) := by
  induction r with
  | nil => rw [cu_nil_r, cu_nil_r]; rfl
  | cons z r ih =>
    cases hz : isI (z :: r) with
    | true =>
      cases z with
      | i s =>
        rw [cu_i s _ _ rfl, cu_i s _ _ rfl]
        exact (ih.cons (.i s)).trans (Eqv.swap _ s u)
      | s => cases hz
      | k t => cases hz
      | d t => cases hz
    | false =>
      rw [cu_c _ _ _ _ rfl hz, cu_c _ _ _ _ rfl hz, cu_d]
      cases ho : cb (.i t) z with
      | none => rfl
      | some o =>
        simp only [Option.bind_some]
        rcases cb_i ho with rfl | rfl
        · exact Eqv.swap (cu c r) t u
        · simp only [List.nil_append, Option.map_id']
          exact Eqv.refl _
theorem cu_congL (x : Ut) (l l' : List Ut) (h : ∀ r, Eqv (cu l r) (cu l' r)) : ∀ r, Eqv (cu (x :: l) r) (cu (x :: l') r) := by
  intro r
  cases hx : isD [x] with
  | true =>
    cases x with
    | d t => rw [cu_d, cu_d]; exact (h r).cons _
    | s => cases hx
    | k t => cases hx
    | i t => cases hx
  | false =>
    induction r with
    | nil =>
      have := h []
      rw [cu_nil_r, cu_nil_r] at this ⊢
      exact this.cons x
    | cons z r ih =>
      cases hz : isI (z :: r) with
      | true =>
        cases z with
        | i s => rw [cu_i s _ _ (by rw [isD_hd]; exact hx), cu_i s _ _ (by rw [isD_hd]; exact hx)]; exact ih.cons _
        | s => cases hz
        | k t => cases hz
        | d t => cases hz
      | false =>
        rw [cu_c _ _ _ _ (by rw [isD_hd]; exact hx) hz, cu_c _ _ _ _ (by rw [isD_hd]; exact hx) hz]
        cases cb x z with
        | none => rfl
        | some o => exact (h r).app o
theorem cu_insL (t : Tx) (c : List Ut) : ∀ r, Eqv (cu (.i t :: c) r) (cu (insI t c) r) := by
  induction c with
  | nil => intro r; exact Eqv.refl _
  | cons y c ih =>
    intro r
    cases y with
    | d u =>
      rw [insI_d, cu_d]
      exact (cu_swapL t u c r).trans ((ih r).cons _)
    | s => exact Eqv.refl _
    | k t => exact Eqv.refl _
    | i t => exact Eqv.refl _
theorem cu_linL (l : List Ut) : ∀ r, Eqv (cu l r) (cu (lin l) r) := by
  induction l with
  | nil => intro r; exact Eqv.refl _
  | cons x l ih =>
    intro r
    refine (cu_congL x l (lin l) ih r).trans ?_
    cases x with
    | i t => exact cu_insL t (lin l) r
    | s => exact Eqv.refl _
    | k t => exact Eqv.refl _
    | d t => exact Eqv.refl _

/-- in the second row -/
theorem cu_i2 (t : Tx) (c : List Ut) (p : List Ut) : Eqv (cu p (.i t :: c)) ((cu p c).map (Ut.i t :: ·)) := by
  induction p with
  | nil => rw [cu_nil_l, cu_nil_l]; rfl
  | cons x p ih =>
    cases hx : isD [x] with
    | true =>
      cases x with
      | d v => rw [cu_d, cu_d]; exact (ih.cons _).trans (Eqv.swap _ t v).symm
      | s => cases hx
      | k t => cases hx
      | i t => cases hx
    | false => rw [cu_i t _ _ (by rw [isD_hd]; exact hx)]; exact Eqv.refl _
theorem cu_swapR (t u : Tx) (c : List Ut) (p : List Ut) : Eqv (cu p (.i t :: .d u :: c)) (cu p (.d u :: .i t :: c)) := by
  induction p with
  | nil => rw [cu_nil_l, cu_nil_l]; rfl
  | cons x p ih =>
    cases hx : isD [x] with
    | true =>
      cases x with
      | d v => rw [cu_d, cu_d]; exact ih.cons _
      | s => cases hx
      | k t => cases hx
      | i t => cases hx
    | false =>
      rw [cu_i t _ _ (by rw [isD_hd]; exact hx), cu_c _ _ _ _ (by rw [isD_hd]; exact hx) rfl, cu_c _ _ _ _ (by rw [isD_hd]; exact hx) rfl]
      cases ho : cb x (.d u) with
      | none => rfl
      | some o =>
        simp only [Option.bind_some]
        rcases cb_is ho with rfl | rfl
        · exact (Eqv.swap (cu p c) t u).trans ((cu_i2 t c p).symm.cons (.d u))
        · simp only [List.nil_append, Option.map_id']
          exact (cu_i2 t c p).symm
theorem cu_congR (x : Ut) (l l' : List Ut) (h : ∀ p, Eqv (cu p l) (cu p l')) : ∀ p, Eqv (cu p (x :: l)) (cu p (x :: l')) := by
  intro p
  cases hx : isI [x] with
  | true =>
    cases x with
    | i t => exact (cu_i2 t l p).trans (((h p).cons _).trans (cu_i2 t l' p).symm)
    | s => cases hx
    | k t => cases hx
    | d t => cases hx
  | false =>
    induction p with
    | nil =>
      have := h []
      rw [cu_nil_l, cu_nil_l] at this ⊢
      exact this.cons x
    | cons z p ih =>
      cases hz : isD [z] with
      | true =>
        cases z with
        | d s => rw [cu_d, cu_d]; exact ih.cons _
        | s => cases hz
        | k t => cases hz
        | i t => cases hz
      | false =>
        rw [cu_c _ _ _ _ (by rw [isD_hd]; exact hz) (by rw [isI_hd]; exact hx), cu_c _ _ _ _ (by rw [isD_hd]; exact hz) (by rw [isI_hd]; exact hx)]
        cases cb z x with
        | none => rfl
        | some o => exact (h p).app o
theorem cu_insR (t : Tx) (c : List Ut) : ∀ p, Eqv (cu p (.i t :: c)) (cu p (insI t c)) := by
  induction c with
  | nil => intro p; exact Eqv.refl _
  | cons y c ih =>
    intro p
    cases y with
    | d u =>
      rw [insI_d]
      exact (cu_swapR t u c p).trans (cu_congR (.d u) (.i t :: c) (insI t c) ih p)
    | s => exact Eqv.refl _
    | k t => exact Eqv.refl _
    | i t => exact Eqv.refl _
theorem cu_linR (l : List Ut) : ∀ p, Eqv (cu p l) (cu p (lin l)) := by
  induction l with
  | nil => intro p; exact Eqv.refl _
  | cons x l ih =>
    intro p
    refine (cu_congR x l (lin l) ih p).trans ?_
    cases x with
    | i t => exact cu_insR t (lin l) p
    | s => exact Eqv.refl _
    | k t => exact Eqv.refl _
    | d t => exact Eqv.refl _
/-- rows that are one, but for the order, do one, but for the order -/
theorem cu_eqv {l l' r r' : List Ut} (h1 : lin l = lin l') (h2 : lin r = lin r') : Eqv (cu l r) (cu l' r') :=
  (cu_linL l r).trans (by
    rw [h1]
    exact (cu_linL l' r).symm.trans ((cu_linR r l').trans (by rw [h2]; exact (cu_linR r' l').symm)))
/-- of three it is one which two are put together first, and put in order first -/
theorem cu_three {p q r a a' b b' x y : List Ut} (h1 : cu p q = some a) (h2 : lin a' = lin a) (h3 : cu a' r = some x) (h4 : cu q r = some b) (h5 : lin b' = lin b) (h6 : cu p b' = some y) : lin x = lin y := by
  have e1 := cu_eqv h2 (rfl : lin r = lin r)
  rw [h3] at e1
  obtain ⟨x', hx, ex⟩ := e1.out
  have e2 := cu_eqv (rfl : lin p = lin p) h5
  rw [h6] at e2
  obtain ⟨y', hy, ey⟩ := e2.out
  rw [ex, ey, cu_assoc (p.length + q.length + r.length + 1) p q r a b x' y' (Nat.lt_succ_self _) h1 hx h4 hy]

end Go.Proofs.Ytcdjemheokmglab.Ol

namespace Go.Proofs.Ytcdjemheokmglab.Ol
open Go.Proofs.Ytcdjemheokmglab.Ln

def ex1 (x : Oq) : List Ut := if x.1 = 1 then List.replicate x.2.1.toNat Ut.s else if x.1 = 2 then [.k x.2.2] else if x.1 = 3 then [.d x.2.2] else [.i x.2.2]
/-- steps laid out -/
def ex : List Oq → List Ut
  | [] => []
  | x :: l => ex1 x ++ ex l
theorem ex_app (a b : List Oq) : ex (a ++ b) = ex a ++ ex b := by
  induction a with
  | nil => rfl
  | cons x a ih => simp only [List.cons_append, ex, ih, List.append_assoc]
theorem ex_one (x : Oq) : ex [x] = ex1 x := by simp [ex]
theorem ex1_s (n : Int) (t : Tx) : ex1 (1, n, t) = List.replicate n.toNat Ut.s := by simp [ex1]
theorem ex1_k (n : Int) (t : Tx) : ex1 (2, n, t) = [.k t] := by simp [ex1]
theorem ex1_d (n : Int) (t : Tx) : ex1 (3, n, t) = [.d t] := by simp [ex1]
theorem ex1_i (n : Int) (t : Tx) : ex1 (4, n, t) = [.i t] := by simp [ex1]

/-- how a row stands in order: what is closed, and what waits -/
def nu (s : List Ut × List Tx) (x : Ut) : List Ut × List Tx :=
  match x with
  | .d t => (s.1 ++ [.d t], s.2)
  | .i t => (s.1, s.2 ++ [t])
  | x => (s.1 ++ s.2.map Ut.i ++ [x], [])
def insL (c : List Tx) (m : List Ut) : List Ut := c.foldr insI m
theorem insL_d (c : List Tx) (u : Tx) (m : List Ut) : insL c (.d u :: m) = .d u :: insL c m := by
  induction c with
  | nil => rfl
  | cons t c ih => simp only [insL, List.foldr_cons] at ih ⊢; rw [ih]; rfl
theorem insL_nd (c : List Tx) (m : List Ut) (h : isD m = false) : insL c m = c.map Ut.i ++ m := by
  induction c with
  | nil => rfl
  | cons t c ih =>
    simp only [insL, List.foldr_cons, List.map_cons, List.cons_append] at ih ⊢
    rw [ih]
    cases c with
    | nil =>
      cases m with
      | nil => rfl
      | cons x m => cases x <;> first | rfl | cases h
    | cons u c => rfl
theorem nu_lin (l : List Ut) : ∀ (a : List Ut) (c : List Tx), (l.foldl nu (a, c)).1 ++ (l.foldl nu (a, c)).2.map Ut.i = a ++ insL c (lin l) := by
  induction l with
  | nil => intro a c; simp only [List.foldl_nil, lin]; rw [insL_nd c [] rfl, List.append_nil]
  | cons x l ih =>
    intro a c
    rw [List.foldl_cons]
    cases x with
    | d t =>
      refine (ih (a ++ [Ut.d t]) c).trans ?_
      simp only [lin, consN]
      rw [insL_d]; simp
    | i t =>
      refine (ih a (c ++ [t])).trans ?_
      simp only [lin, consN, insL, List.foldr_append, List.foldr_cons, List.foldr_nil]
    | s =>
      refine (ih (a ++ c.map Ut.i ++ [Ut.s]) []).trans ?_
      simp only [lin, consN]
      rw [insL_nd c _ rfl]; simp [insL]
    | k t =>
      refine (ih (a ++ c.map Ut.i ++ [Ut.k t]) []).trans ?_
      simp only [lin, consN]
      rw [insL_nd c _ rfl]; simp [insL]
theorem nu_rep (n : Nat) : ∀ (s : List Ut × List Tx), (List.replicate (n + 1) Ut.s).foldl nu s = (s.1 ++ s.2.map Ut.i ++ List.replicate (n + 1) Ut.s, []) := by
  induction n with
  | zero => intro s; rfl
  | succ n ih =>
    intro s
    rw [List.replicate_succ, List.foldl_cons, ih]
    simp [nu, List.replicate_succ]
theorem ex_ins (c : List Oq) (h : ∀ y ∈ c, y.1 = 4) : ex c = (c.map fun y => y.2.2).map Ut.i := by
  induction c with
  | nil => rfl
  | cons y c ih =>
    obtain ⟨k, n, t⟩ := y
    have hk : k = 4 := h (k, n, t) (by simp)
    subst hk
    rw [ex, ex1_i, ih (fun z hz => h z (by simp [hz]))]; rfl
theorem stay_ne (q : List Oq) {x : Oq} (h : x.1 ≠ 1) : stay q x = q ++ [x] := by
  rcases stay_cases q x with ⟨e, _⟩ | ⟨o, y, _, _, hx, _⟩
  · exact e
  · exact absurd hx h
theorem nfo_ex (l : List Oq) : (∀ x ∈ l, al0 x) → (ex l).foldl nu ([], []) = (ex (nfo l).1, (nfo l).2.map fun y => y.2.2) := by
  refine snoc_ind (P := fun l => (∀ x ∈ l, al0 x) → (ex l).foldl nu ([], []) = (ex (nfo l).1, (nfo l).2.map fun y => y.2.2)) (fun _ => rfl) ?_ l
  intro l x ih hal
  have hal' : ∀ y ∈ l, al0 y := fun y hy => hal y (by simp [hy])
  have hk := kept l hal'
  have hx := hal x (by simp)
  rw [ex_app, ex_one, List.foldl_append, ih hal', nfo_snoc]
  have hins := hk.ins
  have hall := hk.al
  generalize nfo l = s at hins hall
  obtain ⟨A, C⟩ := s
  obtain ⟨k, n, t⟩ := x
  simp only [al0] at hx hins hall ⊢
  by_cases e3 : k = 3
  · subst e3
    rw [ex1_d]; simp [nst, nu, ex_app, ex_one, ex1_d]
  · by_cases e4 : k = 4
    · subst e4
      rw [ex1_i]; simp [nst, nu]
    · have g1 : nst (A, C) (k, n, t) = (stay (A ++ C) (k, n, t), []) := by simp [nst, e3, e4]
      rw [g1]
      by_cases e1 : k = 1
      · subst e1
        obtain ⟨m, hm⟩ : ∃ m : Nat, n = (m + 1 : Nat) := ⟨(n - 1).toNat, by omega⟩
        subst hm
        rw [ex1_s, Int.toNat_natCast, nu_rep]
        rcases stay_cases (A ++ C) (1, ((m + 1 : Nat) : Int), t) with ⟨e, _⟩ | ⟨o, y, h1, hy1, _, e⟩
        · rw [e, ex_app, ex_app, ex_one, ex1_s, Int.toNat_natCast, ex_ins C hins]; simp
        · have hy := hall y (by rw [h1]; simp)
          have hyn : 1 ≤ y.2.1 := by rcases hy with ⟨_, h, _⟩ | ⟨h, _⟩ <;> omega
          rw [e, ← ex_ins C hins, ← ex_app, h1, ex_app, ex_app, ex_one, ex_one]
          obtain ⟨y1, y2, y3⟩ := y
          simp only at hy1 hyn ⊢
          subst hy1
          rw [ex1_s, ex1_s, List.append_assoc, List.replicate_append_replicate]
          have : y2.toNat + (m + 1) = (y2 + ((m + 1 : Nat) : Int)).toNat := by omega
          rw [this]; rfl
      · obtain rfl : k = 2 := by omega
        rw [ex1_k, stay_ne (A ++ C) (x := (2, n, t)) (by simp), ex_app, ex_app, ex_one, ex1_k, ex_ins C hins]
        simp [nu]
/-- steps in order, laid out -/
theorem ex_nrm (l : List Oq) (h : ∀ x ∈ l, al0 x) : ex (nrm l) = lin (ex l) := by
  have h1 := nu_lin (ex l) [] []
  rw [nfo_ex l h] at h1
  unfold nrm
  rw [ex_app, ex_ins _ (kept l h).ins]
  simpa [insL] using h1

/-- no two Skips side by side -/
def nadj : List Oq → Bool
  | x :: y :: l => !(x.1 == 1 && y.1 == 1) && nadj (y :: l)
  | _ => true
theorem os_mono (l : List Oq) : ∀ st : Option Int × Bool, (l.foldl os st).2 = true → st.2 = true := by
  induction l with
  | nil => intro st h; exact h
  | cons x l ih =>
    intro st h
    have := ih _ h
    simp only [os, Bool.and_eq_true] at this
    exact this.1
theorem nadj_of (l : List Oq) : ∀ st : Option Int × Bool, (l.foldl os st).2 = true → nadj l = true ∧ ∀ x, l.head? = some x → st.1 = some 1 → x.1 ≠ 1 := by
  induction l with
  | nil => intro st _; exact ⟨rfl, fun x hx => by cases hx⟩
  | cons x l ih =>
    intro st h
    rw [List.foldl_cons] at h
    obtain ⟨h1, h2⟩ := ih _ h
    have h3 := os_mono l _ h
    simp only [os, Bool.and_eq_true, okp] at h2 h3
    refine ⟨?_, ?_⟩
    · cases l with
      | nil => rfl
      | cons y l =>
        have := h2 y rfl
        simp only [nadj, h1, Bool.and_true]
        by_cases hx : x.1 = 1
        · have := this (by rw [hx]); simp [this]
        · simp [hx]
    · intro z hz hst
      simp only [List.head?_cons, Option.some.injEq] at hz
      subst hz
      intro e
      rw [hst, e] at h3
      simp at h3
def hdS : List Ut → Bool
  | .s :: _ => true
  | _ => false
theorem rep_inj (n : Nat) : ∀ (m : Nat) (A B : List Ut), hdS A = false → hdS B = false → List.replicate n Ut.s ++ A = List.replicate m Ut.s ++ B → n = m ∧ A = B := by
  induction n with
  | zero =>
    intro m A B hA hB h
    cases m with
    | zero => exact ⟨rfl, h⟩
    | succ m => simp only [List.replicate_zero, List.nil_append, List.replicate_succ, List.cons_append] at h; subst h; cases hA
  | succ n ih =>
    intro m A B hA hB h
    cases m with
    | zero => simp only [List.replicate_zero, List.nil_append, List.replicate_succ, List.cons_append] at h; subst h; cases hB
    | succ m =>
      simp only [List.replicate_succ, List.cons_append, List.cons.injEq, true_and] at h
      obtain ⟨rfl, h2⟩ := ih m A B hA hB h
      exact ⟨rfl, h2⟩
theorem ex_hdS {x : Oq} {l : List Oq} (h : nadj (x :: l) = true) (hx : x.1 = 1) (hal : ∀ y ∈ l, al0 y) : hdS (ex l) = false := by
  cases l with
  | nil => rfl
  | cons y l =>
    simp only [nadj, Bool.and_eq_true, hx] at h
    have hy1 : y.1 ≠ 1 := by intro e; simp [e] at h
    have := hal y (by simp)
    obtain ⟨k, n, t⟩ := y
    simp only [al0] at this hy1
    rcases this with ⟨h, _⟩ | ⟨h, _⟩
    · exact absurd h hy1
    · rcases h with rfl | rfl | rfl
      · rw [ex, ex1_k]; rfl
      · rw [ex, ex1_d]; rfl
      · rw [ex, ex1_i]; rfl
theorem nadj_tail {x : Oq} {l : List Oq} (h : nadj (x :: l) = true) : nadj l = true := by
  cases l with
  | nil => rfl
  | cons y l => simp only [nadj, Bool.and_eq_true] at h; exact h.2
/-- steps that are laid out in one way are the same -/
theorem ex_inj (l : List Oq) : ∀ m : List Oq, (∀ x ∈ l, al0 x) → (∀ x ∈ m, al0 x) → nadj l = true → nadj m = true → ex l = ex m → l = m := by
  have hne : ∀ (x : Oq), al0 x → ex1 x ≠ [] := by
    intro x hx
    obtain ⟨k, n, t⟩ := x
    simp only [al0] at hx
    rcases hx with ⟨rfl, h, _⟩ | ⟨h, _⟩
    · rw [ex1_s]
      obtain ⟨m, hm⟩ : ∃ m : Nat, n.toNat = m + 1 := ⟨(n - 1).toNat, by omega⟩
      rw [hm]; simp [List.replicate_succ]
    · rcases h with rfl | rfl | rfl <;> simp [ex1]
  induction l with
  | nil =>
    intro m _ hm _ _ h
    cases m with
    | nil => rfl
    | cons y m => exfalso; rw [ex, ex] at h; exact hne y (hm y (by simp)) (List.append_eq_nil_iff.1 h.symm).1
  | cons x l ih =>
    intro m hl hm nl nm h
    cases m with
    | nil => exfalso; rw [ex, ex] at h; exact hne x (hl x (by simp)) (List.append_eq_nil_iff.1 h).1
    | cons y m =>
      have hx := hl x (by simp)
      have hy := hm y (by simp)
      have hl' : ∀ z ∈ l, al0 z := fun z hz => hl z (by simp [hz])
      have hm' : ∀ z ∈ m, al0 z := fun z hz => hm z (by simp [hz])
      have sl := ex_hdS nl
      have sm := ex_hdS nm
      obtain ⟨xk, xn, xt⟩ := x
      obtain ⟨yk, yn, yt⟩ := y
      simp only [al0] at hx hy sl sm
      rw [ex, ex] at h
      rcases hx with ⟨rfl, hx1, rfl⟩ | ⟨hxk, rfl, _⟩
      · rcases hy with ⟨rfl, hy1, rfl⟩ | ⟨hyk, rfl, _⟩
        · rw [ex1_s, ex1_s] at h
          obtain ⟨e1, e2⟩ := rep_inj _ _ _ _ (sl rfl hl') (sm rfl hm') h
          have : xn = yn := by omega
          subst this
          rw [ih m hl' hm' (nadj_tail nl) (nadj_tail nm) e2]
        · exfalso
          obtain ⟨q, hq⟩ : ∃ q : Nat, xn.toNat = q + 1 := ⟨(xn - 1).toNat, by omega⟩
          rw [ex1_s, hq, List.replicate_succ] at h
          rcases hyk with rfl | rfl | rfl
          · rw [ex1_k] at h; simp at h
          · rw [ex1_d] at h; simp at h
          · rw [ex1_i] at h; simp at h
      · rcases hy with ⟨rfl, hy1, rfl⟩ | ⟨hyk, rfl, _⟩
        · exfalso
          obtain ⟨q, hq⟩ : ∃ q : Nat, yn.toNat = q + 1 := ⟨(yn - 1).toNat, by omega⟩
          rw [ex1_s, hq, List.replicate_succ] at h
          rcases hxk with rfl | rfl | rfl
          · rw [ex1_k] at h; simp at h
          · rw [ex1_d] at h; simp at h
          · rw [ex1_i] at h; simp at h
        · rcases hxk with rfl | rfl | rfl <;> rcases hyk with rfl | rfl | rfl <;> simp only [ex1_k, ex1_d, ex1_i, List.singleton_append, List.cons.injEq, Ut.k.injEq, Ut.d.injEq, Ut.i.injEq, reduceCtorEq, false_and] at h
          all_goals
            obtain ⟨rfl, h2⟩ := h
            rw [ih m hl' hm' (nadj_tail nl) (nadj_tail nm) h2]
theorem nrm_al0 {l : List Oq} (h : ∀ x ∈ l, al0 x) : ∀ x ∈ nrm l, al0 x := (kept l h).al
theorem nrm_nadj (l : List Oq) : nadj (nrm l) = true := (nadj_of (nrm l) _ (ord_nrm l).1).1
/-- steps are the same, in order, just if they are laid out in one way but for the order -/
theorem nrm_same {l m : List Oq} (hl : ∀ x ∈ l, al0 x) (hm : ∀ x ∈ m, al0 x) (h : lin (ex l) = lin (ex m)) : nrm l = nrm m :=
  ex_inj _ _ (nrm_al0 hl) (nrm_al0 hm) (nrm_nadj l) (nrm_nadj m) (by rw [ex_nrm l hl, ex_nrm m hm, h])
theorem lin_nrm {l : List Oq} (hl : ∀ x ∈ l, al0 x) : lin (ex (nrm l)) = lin (ex l) := by
  have h1 := ex_nrm (nrm l) (nrm_al0 hl)
  rw [nrm_nrm, ex_nrm l hl] at h1
  rw [ex_nrm l hl]; exact h1.symm

end Go.Proofs.Ytcdjemheokmglab.Ol

namespace Go.Proofs.Ytcdjemheokmglab.Ol
open Go.Proofs.Ytcdjemheokmglab.Ln

/-- is a line known, and open? -/
def opU : Ut → Bool
  | .s => false
  | .k t => !cl t
  | .d t => !cl t
  | .i t => !cl t
def hdU : List Ut → Ut
  | [] => .s
  | x :: _ => x
theorem hdU_cons (x : Ut) (l : List Ut) : hdU (x :: l) = x := rfl
theorem hdU_nil : hdU [] = .s := rfl
/-- two rows, one behind the other; e: does the middle end with an open line? -/
def ce (e : Bool) (p q : List Ut) : Option (List Ut) :=
  match p with
  | .d t :: p' => (ce e p' q).map (Ut.d t :: ·)
  | p => match q with
    | .i t :: q' => (ce e p q').map (Ut.i t :: ·)
    | q =>
      if p.isEmpty && q.isEmpty then some []
      else if e then none
      else (cb (hdU p) (hdU q)).bind fun o => (ce (opU (hdU p) || opU (hdU q)) p.tail q.tail).map (o ++ ·)
termination_by p.length + q.length
decreasing_by
  · simp_all
  · simp_all
  · rename_i h _ ; cases p <;> cases q <;> simp_all <;> omega

theorem ce_d (e : Bool) (t : Tx) (p q : List Ut) : ce e (.d t :: p) q = (ce e p q).map (Ut.d t :: ·) := by rw [ce.eq_def]
theorem ce_i (e : Bool) (t : Tx) (p q : List Ut) (h : isD p = false) : ce e p (.i t :: q) = (ce e p q).map (Ut.i t :: ·) := by
  rw [ce.eq_def]
  cases p with
  | nil => rfl
  | cons x p => cases x <;> first | rfl | (simp [isD] at h)
theorem ce_nil (e : Bool) : ce e [] [] = some [] := by rw [ce.eq_def]; rfl
theorem ce_c (e : Bool) (p q : List Ut) (h : isD p = false) (h2 : isI q = false) (h3 : (p.isEmpty && q.isEmpty) = false) : ce e p q = if e then none else (cb (hdU p) (hdU q)).bind fun o => (ce (opU (hdU p) || opU (hdU q)) p.tail q.tail).map (o ++ ·) := by
  rw [ce.eq_def]
  cases p with
  | nil =>
    cases q with
    | nil => cases h3
    | cons y q => cases y <;> first | (simp [isI] at h2; done) | rfl
  | cons x p =>
    cases q with
    | nil => cases x <;> first | (simp [isD] at h; done) | rfl
    | cons y q => cases x <;> first | (simp [isD] at h; done) | (cases y <;> first | (simp [isI] at h2; done) | rfl)

theorem cu_pad (p q : List Ut) (h : isD p = false) (h2 : isI q = false) (h3 : (p.isEmpty && q.isEmpty) = false) : cu p q = (cb (hdU p) (hdU q)).bind fun o => (cu p.tail q.tail).map (o ++ ·) := by
  cases p with
  | nil =>
    cases q with
    | nil => cases h3
    | cons y q =>
      rw [cu_nil_l]
      show _ = (cb Ut.s y).bind fun o => (cu [] q).map (o ++ ·)
      rw [cu_nil_l]
      cases y <;> first | (simp [isI] at h2; done) | rfl
  | cons x p =>
    cases q with
    | nil =>
      rw [cu_nil_r]
      show _ = (cb x Ut.s).bind fun o => (cu p []).map (o ++ ·)
      rw [cu_nil_r]
      cases x <;> first | (simp [isD] at h; done) | rfl
    | cons y q => exact cu_c x y p q h h2
theorem isD_is {p : List Ut} (h : isD p = true) : ∃ t p', p = .d t :: p' := by
  cases p with
  | nil => cases h
  | cons x p => cases x with
    | d t => exact ⟨t, p, rfl⟩
    | s => cases h
    | k t => cases h
    | i t => cases h
theorem isI_is {p : List Ut} (h : isI p = true) : ∃ t p', p = .i t :: p' := by
  cases p with
  | nil => cases h
  | cons x p => cases x with
    | i t => exact ⟨t, p, rfl⟩
    | s => cases h
    | k t => cases h
    | d t => cases h
theorem both_tail {p q : List Ut} {n : Nat} (h3 : (p.isEmpty && q.isEmpty) = false) (hn : p.length + q.length < n + 1) : p.tail.length + q.tail.length < n := by
  cases p <;> cases q <;> simp at h3 hn ⊢ <;> omega
theorem both_nil {p q : List Ut} (h3 : (p.isEmpty && q.isEmpty) = true) : p = [] ∧ q = [] := by
  cases p <;> cases q <;> simp at h3 ⊢
theorem bindE {o : Option (List Ut)} {f : List Ut → Option (List Ut)} {a : List Ut} (h : o.bind f = some a) : ∃ b, o = some b ∧ f b = some a := Option.bind_eq_some_iff.1 h
/-- what is told is what they are -/
theorem ce_cu (n : Nat) : ∀ (e : Bool) (p q a : List Ut), p.length + q.length < n → ce e p q = some a → cu p q = some a := by
  induction n with
  | zero => intro e p q a hn; omega
  | succ n ih =>
    intro e p q a hn h
    cases hp : isD p with
    | true =>
      obtain ⟨t, p', rfl⟩ := isD_is hp
      rw [ce_d] at h
      obtain ⟨a', ha, rfl⟩ := map_of h
      rw [cu_d, ih e p' q a' (by simp at hn; omega) ha]; rfl
    | false =>
      cases hq : isI q with
      | true =>
        obtain ⟨t, q', rfl⟩ := isI_is hq
        rw [ce_i e t p q' hp] at h
        obtain ⟨a', ha, rfl⟩ := map_of h
        rw [cu_i t p q' hp, ih e p q' a' (by simp at hn; omega) ha]; rfl
      | false =>
        cases h3 : (p.isEmpty && q.isEmpty) with
        | true => obtain ⟨rfl, rfl⟩ := both_nil h3; rw [ce_nil] at h; rw [cu_nil_l]; exact h
        | false =>
          rw [ce_c e p q hp hq h3] at h
          rw [cu_pad p q hp hq h3]
          cases e with
          | true => cases h
          | false =>
            simp only [Bool.false_eq_true, if_false] at h
            obtain ⟨o, ho, h⟩ := bindE h
            obtain ⟨a', ha, rfl⟩ := map_of h
            rw [ho, Option.bind_some, ih _ _ _ a' (both_tail h3 hn) ha]; rfl

theorem ce_swapL (t u : Tx) (c : List Ut) (r : List Ut) : ∀ e, Eqv (ce e (.i t :: .d u :: c) r) ((ce e (.i t :: c) r).map (Ut.d u :: ·)) := by
  induction r with
  | nil =>
    intro e
    rw [ce_c e _ _ rfl rfl rfl, ce_c e _ _ rfl rfl rfl]
    cases e with
    | true => rfl
    | false =>
      simp only [Bool.false_eq_true, if_false, hdU_cons, hdU_nil, cb, Option.bind_some, List.tail_cons, List.tail_nil]
      rw [ce_d]
      exact Eqv.swap _ t u
  | cons z r ih =>
    intro e
    cases hz : isI (z :: r) with
    | true =>
      obtain ⟨s, r', h⟩ := isI_is hz
      cases h
      rw [ce_i e s _ _ rfl, ce_i e s _ _ rfl]
      exact ((ih e).cons (.i s)).trans (Eqv.swap _ s u)
    | false =>
      rw [ce_c e _ _ rfl hz rfl, ce_c e _ _ rfl hz rfl]
      cases e with
      | true => rfl
      | false =>
        simp only [Bool.false_eq_true, if_false, hdU_cons, List.tail_cons]
        rw [ce_d]
        cases ho : cb (.i t) z with
        | none => rfl
        | some o =>
          simp only [Option.bind_some]
          rcases cb_i ho with rfl | rfl
          · exact Eqv.swap _ t u
          · simp only [List.nil_append, Option.map_id']
            exact Eqv.refl _
theorem ce_congL (x : Ut) (l l' : List Ut) (h : ∀ e r, Eqv (ce e l r) (ce e l' r)) : ∀ e r, Eqv (ce e (x :: l) r) (ce e (x :: l') r) := by
  intro e r
  cases hx : isD [x] with
  | true =>
    obtain ⟨t, _, h2⟩ := isD_is hx
    cases h2
    rw [ce_d, ce_d]; exact (h e r).cons _
  | false =>
    induction r generalizing e with
    | nil =>
      rw [ce_c e _ _ (by rw [isD_hd]; exact hx) rfl rfl, ce_c e _ _ (by rw [isD_hd]; exact hx) rfl rfl]
      cases e with
      | true => rfl
      | false =>
        simp only [Bool.false_eq_true, if_false, hdU_cons, hdU_nil, List.tail_cons, List.tail_nil]
        cases cb x Ut.s with
        | none => rfl
        | some o => exact (h _ []).app o
    | cons z r ih =>
      cases hz : isI (z :: r) with
      | true =>
        obtain ⟨s, r', h2⟩ := isI_is hz
        cases h2
        rw [ce_i e s _ _ (by rw [isD_hd]; exact hx), ce_i e s _ _ (by rw [isD_hd]; exact hx)]; exact (ih e).cons _
      | false =>
        rw [ce_c e _ _ (by rw [isD_hd]; exact hx) hz rfl, ce_c e _ _ (by rw [isD_hd]; exact hx) hz rfl]
        cases e with
        | true => rfl
        | false =>
          simp only [Bool.false_eq_true, if_false, hdU_cons, List.tail_cons]
          cases cb x z with
          | none => rfl
          | some o => exact (h _ r).app o
theorem ce_insL (t : Tx) (c : List Ut) : ∀ e r, Eqv (ce e (.i t :: c) r) (ce e (insI t c) r) := by
  induction c with
  | nil => intro e r; exact Eqv.refl _
  | cons y c ih =>
    intro e r
    cases y with
    | d u =>
      rw [insI_d, ce_d]
      exact (ce_swapL t u c r e).trans ((ih e r).cons _)
    | s => exact Eqv.refl _
    | k t => exact Eqv.refl _
    | i t => exact Eqv.refl _
theorem ce_linL (l : List Ut) : ∀ e r, Eqv (ce e l r) (ce e (lin l) r) := by
  induction l with
  | nil => intro e r; exact Eqv.refl _
  | cons x l ih =>
    intro e r
    refine (ce_congL x l (lin l) ih e r).trans ?_
    cases x with
    | i t => exact ce_insL t (lin l) e r
    | s => exact Eqv.refl _
    | k t => exact Eqv.refl _
    | d t => exact Eqv.refl _
theorem ce_i2 (t : Tx) (c : List Ut) (p : List Ut) : ∀ e, Eqv (ce e p (.i t :: c)) ((ce e p c).map (Ut.i t :: ·)) := by
  induction p with
  | nil => intro e; rw [ce_i e t [] c rfl]; exact Eqv.refl _
  | cons x p ih =>
    intro e
    cases hx : isD [x] with
    | true =>
      obtain ⟨v, _, h2⟩ := isD_is hx
      cases h2
      rw [ce_d, ce_d]; exact ((ih e).cons _).trans (Eqv.swap _ t v).symm
    | false => rw [ce_i e t _ _ (by rw [isD_hd]; exact hx)]; exact Eqv.refl _
theorem ce_swapR (t u : Tx) (c : List Ut) (p : List Ut) : ∀ e, Eqv (ce e p (.i t :: .d u :: c)) (ce e p (.d u :: .i t :: c)) := by
  have key : ∀ e p, isD p = false → Eqv (ce e p (.i t :: .d u :: c)) (ce e p (.d u :: .i t :: c)) := by
    intro e p hp
    rw [ce_i e t _ _ hp, ce_c e p _ hp rfl (by simp), ce_c e p _ hp rfl (by simp)]
    cases e with
    | true => rfl
    | false =>
      simp only [Bool.false_eq_true, if_false, hdU_cons, List.tail_cons]
      cases ho : cb (hdU p) (.d u) with
      | none => rfl
      | some o =>
        simp only [Option.bind_some]
        rcases cb_is ho with rfl | rfl
        · exact (Eqv.swap _ t u).trans ((ce_i2 t c p.tail _).symm.cons (.d u))
        · simp only [List.nil_append, Option.map_id']
          exact (ce_i2 t c p.tail _).symm
  induction p with
  | nil => intro e; exact key e [] rfl
  | cons x p ih =>
    intro e
    cases hx : isD [x] with
    | true =>
      obtain ⟨v, _, h2⟩ := isD_is hx
      cases h2
      rw [ce_d, ce_d]; exact (ih e).cons _
    | false => exact key e (x :: p) (by rw [isD_hd]; exact hx)
theorem ce_congR (x : Ut) (l l' : List Ut) (h : ∀ e p, Eqv (ce e p l) (ce e p l')) : ∀ e p, Eqv (ce e p (x :: l)) (ce e p (x :: l')) := by
  intro e p
  cases hx : isI [x] with
  | true =>
    obtain ⟨t, _, h2⟩ := isI_is hx
    cases h2
    exact (ce_i2 t l p e).trans (((h e p).cons _).trans (ce_i2 t l' p e).symm)
  | false =>
    have key : ∀ e p, isD p = false → Eqv (ce e p (x :: l)) (ce e p (x :: l')) := by
      intro e p hp
      rw [ce_c e p _ hp (by rw [isI_hd]; exact hx) (by simp), ce_c e p _ hp (by rw [isI_hd]; exact hx) (by simp)]
      cases e with
      | true => rfl
      | false =>
        simp only [Bool.false_eq_true, if_false, hdU_cons, List.tail_cons]
        cases cb (hdU p) x with
        | none => rfl
        | some o => exact (h _ p.tail).app o
    induction p generalizing e with
    | nil => exact key e [] rfl
    | cons z p ih =>
      cases hz : isD [z] with
      | true =>
        obtain ⟨v, _, h2⟩ := isD_is hz
        cases h2
        rw [ce_d, ce_d]; exact (ih e).cons _
      | false => exact key e (z :: p) (by rw [isD_hd]; exact hz)
theorem ce_insR (t : Tx) (c : List Ut) : ∀ e p, Eqv (ce e p (.i t :: c)) (ce e p (insI t c)) := by
  induction c with
  | nil => intro e p; exact Eqv.refl _
  | cons y c ih =>
    intro e p
    cases y with
    | d u =>
      rw [insI_d]
      exact (ce_swapR t u c p e).trans (ce_congR (.d u) (.i t :: c) (insI t c) ih e p)
    | s => exact Eqv.refl _
    | k t => exact Eqv.refl _
    | i t => exact Eqv.refl _
theorem ce_linR (l : List Ut) : ∀ e p, Eqv (ce e p l) (ce e p (lin l)) := by
  induction l with
  | nil => intro e p; exact Eqv.refl _
  | cons x l ih =>
    intro e p
    refine (ce_congR x l (lin l) ih e p).trans ?_
    cases x with
    | i t => exact ce_insR t (lin l) e p
    | s => exact Eqv.refl _
    | k t => exact Eqv.refl _
    | d t => exact Eqv.refl _
theorem ce_eqv {e : Bool} {l l' r r' : List Ut} (h1 : lin l = lin l') (h2 : lin r = lin r') : Eqv (ce e l r) (ce e l' r') :=
  (ce_linL l e r).trans (by
    rw [h1]
    exact (ce_linL l' e r).symm.trans ((ce_linR r e l').trans (by rw [h2]; exact (ce_linR r' e l').symm)))

/-- turned back -/
def fu1 : Ut → Ut
  | .d t => .i t
  | .i t => .d t
  | x => x
def fu (l : List Ut) : List Ut := l.map fu1
theorem fu_hd (l : List Ut) : hdU (fu l) = fu1 (hdU l) ∧ (fu l).tail = fu l.tail ∧ (fu l).isEmpty = l.isEmpty := by
  cases l <;> exact ⟨rfl, rfl, rfl⟩
theorem fu_isD (l : List Ut) : isD (fu l) = isI l ∧ isI (fu l) = isD l := by
  cases l with
  | nil => exact ⟨rfl, rfl⟩
  | cons x l => cases x <;> exact ⟨rfl, rfl⟩
theorem fu_op (x : Ut) : opU (fu1 x) = opU x := by cases x <;> rfl
theorem cb_fu {x y : Ut} (hx : isD [x] = false) (hy : isI [y] = false) : cb (fu1 y) (fu1 x) = (cb x y).map fu := by
  cases x <;> cases y <;> simp [isD, isI] at hx hy <;> simp only [fu1, cb] <;> (try rfl) <;> rename_i a b <;> (by_cases h : a = b; (subst h; simp [fu, fu1]); (have h2 : ¬ b = a := fun e => h e.symm; simp [h, h2]))
theorem fu_map (f : Option (List Ut)) (o : List Ut) : (f.map (o ++ ·)).map fu = (f.map fu).map (fu o ++ ·) := by
  cases f with
  | none => rfl
  | some a => simp [fu]
theorem fu_cons (f : Option (List Ut)) (x : Ut) : (f.map (x :: ·)).map fu = (f.map fu).map (fu1 x :: ·) := by
  cases f with
  | none => rfl
  | some a => simp [fu]
/-- turned back they are the second turned back, and then the first -/
theorem ce_fu (n : Nat) : ∀ (e : Bool) (p q : List Ut), p.length + q.length < n → Eqv (ce e (fu q) (fu p)) ((ce e p q).map fu) := by
  induction n with
  | zero => intro e p q hn; omega
  | succ n ih =>
    intro e p q hn
    cases hp : isD p with
    | true =>
      obtain ⟨t, p', rfl⟩ := isD_is hp
      rw [ce_d, fu_cons]
      exact (ce_i2 t (fu p') (fu q) e).trans ((ih e p' q (by simp at hn; omega)).cons (.i t))
    | false =>
      cases hq : isI q with
      | true =>
        obtain ⟨t, q', rfl⟩ := isI_is hq
        rw [ce_i e t p q' hp, fu_cons]
        show Eqv (ce e (.d t :: fu q') (fu p)) _
        rw [ce_d]
        exact (ih e p q' (by simp at hn; omega)).cons (.d t)
      | false =>
        cases h3 : (p.isEmpty && q.isEmpty) with
        | true => obtain ⟨rfl, rfl⟩ := both_nil h3; show Eqv (ce e [] []) ((ce e [] []).map fu); rw [ce_nil]; exact Eqv.refl _
        | false =>
          rw [ce_c e p q hp hq h3, ce_c e (fu q) (fu p) (by rw [(fu_isD q).1]; exact hq) (by rw [(fu_isD p).2]; exact hp) (by rw [(fu_hd q).2.2, (fu_hd p).2.2, Bool.and_comm]; exact h3)]
          cases e with
          | true => rfl
          | false =>
            simp only [Bool.false_eq_true, if_false]
            rw [(fu_hd q).1, (fu_hd p).1, (fu_hd q).2.1, (fu_hd p).2.1, fu_op, fu_op, Bool.or_comm]
            have hx : isD [hdU p] = false := by cases p with | nil => rfl | cons x p => rw [isD_hd] at hp; exact hp
            have hy : isI [hdU q] = false := by cases q with | nil => rfl | cons x p => rw [isI_hd] at hq; exact hq
            rw [cb_fu hx hy]
            cases cb (hdU p) (hdU q) with
            | none => rfl
            | some o =>
              simp only [Option.map_some, Option.bind_some]
              rw [fu_map]
              exact (ih _ p.tail q.tail (both_tail h3 hn)).app (fu o)

end Go.Proofs.Ytcdjemheokmglab.Ol

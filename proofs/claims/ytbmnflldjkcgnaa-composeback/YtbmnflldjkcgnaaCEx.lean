
/-
  Plain laws: steps laid out, one line each; that steps in order are those laid out in order, and that laid out they are known; no condition but those that each states.
-/
import Derived.Test.YtbmnflldjkcgnaaCCan
namespace Go.Proofs.Ytbmnflldjkcgnaa.Ol
open Go.Proofs.Ytbmnflldjkcgnaa.Ln

def ex1 (x : Oq) : List Ut := if x.1 = 1 then List.replicate x.2.1.toNat Ut.s else if x.1 = 2 then [.k x.2.2] else if x.1 = 3 then [.d x.2.2] else [.i x.2.2]
/-- steps laid out -/
def ex : List Oq → List Ut
  | [] => []
  | x :: l => ex1 x ++ ex l
theorem ex_app (a b : List Oq) : ex (a ++ b) = ex a ++ ex b := by
  induction a with
  | nil => rfl
  | cons x a ih => simp only [List.cons_append, ex, ih, List.append_assoc]
theorem ex_one (x : Oq) : ex [x] = ex1 x := by simp [ex]
theorem ex1_s (n : Int) (t : Tx) : ex1 (1, n, t) = List.replicate n.toNat Ut.s := by simp [ex1]
theorem ex1_k (n : Int) (t : Tx) : ex1 (2, n, t) = [.k t] := by simp [ex1]
theorem ex1_d (n : Int) (t : Tx) : ex1 (3, n, t) = [.d t] := by simp [ex1]
theorem ex1_i (n : Int) (t : Tx) : ex1 (4, n, t) = [.i t] := by simp [ex1]

/-- how a row stands in order: what is closed, and what waits -/
def nu (s : List Ut × List Tx) (x : Ut) : List Ut × List Tx :=
  match x with
  | .d t => (s.1 ++ [.d t], s.2)
  | .i t => (s.1, s.2 ++ [t])
  | x => (s.1 ++ s.2.map Ut.i ++ [x], [])
def insL (c : List Tx) (m : List Ut) : List Ut := c.foldr insI m
theorem insL_d (c : List Tx) (u : Tx) (m : List Ut) : insL c (.d u :: m) = .d u :: insL c m := by
  induction c with
  | nil => rfl
  | cons t c ih => simp only [insL, List.foldr_cons] at ih ⊢; rw [ih]; rfl
theorem insL_nd (c : List Tx) (m : List Ut) (h : isD m = false) : insL c m = c.map Ut.i ++ m := by
  induction c with
  | nil => rfl
  | cons t c ih =>
    simp only [insL, List.foldr_cons, List.map_cons, List.cons_append] at ih ⊢
    rw [ih]
    cases c with
    | nil =>
      cases m with
      | nil => rfl
      | cons x m => cases x <;> first | rfl | cases h
    | cons u c => rfl
theorem nu_lin (l : List Ut) : ∀ (a : List Ut) (c : List Tx), (l.foldl nu (a, c)).1 ++ (l.foldl nu (a, c)).2.map Ut.i = a ++ insL c (lin l) := by
  induction l with
  | nil => intro a c; simp only [List.foldl_nil, lin]; rw [insL_nd c [] rfl, List.append_nil]
  | cons x l ih =>
    intro a c
    rw [List.foldl_cons]
    cases x with
    | d t =>
      refine (ih (a ++ [Ut.d t]) c).trans ?_
      simp only [lin, consN]
      rw [insL_d]; simp
    | i t =>
      refine (ih a (c ++ [t])).trans ?_
      simp only [lin, consN, insL, List.foldr_append, List.foldr_cons, List.foldr_nil]
    | s =>
      refine (ih (a ++ c.map Ut.i ++ [Ut.s]) []).trans ?_
      simp only [lin, consN]
      rw [insL_nd c _ rfl]; simp [insL]
    | k t =>
      refine (ih (a ++ c.map Ut.i ++ [Ut.k t]) []).trans ?_
      simp only [lin, consN]
      rw [insL_nd c _ rfl]; simp [insL]
theorem nu_rep (n : Nat) : ∀ (s : List Ut × List Tx), (List.replicate (n + 1) Ut.s).foldl nu s = (s.1 ++ s.2.map Ut.i ++ List.replicate (n + 1) Ut.s, []) := by
  induction n with
  | zero => intro s; rfl
  | succ n ih =>
    intro s
    rw [List.replicate_succ, List.foldl_cons, ih]
    simp [nu, List.replicate_succ]
theorem ex_ins (c : List Oq) (h : ∀ y ∈ c, y.1 = 4) : ex c = (c.map fun y => y.2.2).map Ut.i := by
  induction c with
  | nil => rfl
  | cons y c ih =>
    obtain ⟨k, n, t⟩ := y
    have hk : k = 4 := h (k, n, t) (by simp)
    subst hk
    rw [ex, ex1_i, ih (fun z hz => h z (by simp [hz]))]; rfl
theorem stay_ne (q : List Oq) {x : Oq} (h : x.1 ≠ 1) : stay q x = q ++ [x] := by
  rcases stay_cases q x with ⟨e, _⟩ | ⟨o, y, _, _, hx, _⟩
  · exact e
  · exact absurd hx h
theorem nfo_ex (l : List Oq) : (∀ x ∈ l, al0 x) → (ex l).foldl nu ([], []) = (ex (nfo l).1, (nfo l).2.map fun y => y.2.2) := by
  refine snoc_ind (P := fun l => (∀ x ∈ l, al0 x) → (ex l).foldl nu ([], []) = (ex (nfo l).1, (nfo l).2.map fun y => y.2.2)) (fun _ => rfl) ?_ l
  intro l x ih hal
  have hal' : ∀ y ∈ l, al0 y := fun y hy => hal y (by simp [hy])
  have hk := kept l hal'
  have hx := hal x (by simp)
  rw [ex_app, ex_one, List.foldl_append, ih hal', nfo_snoc]
  have hins := hk.ins
  have hall := hk.al
  generalize nfo l = s at hins hall
  obtain ⟨A, C⟩ := s
  obtain ⟨k, n, t⟩ := x
  simp only [al0] at hx hins hall ⊢
  by_cases e3 : k = 3
  · subst e3
    rw [ex1_d]; simp [nst, nu, ex_app, ex_one, ex1_d]
  · by_cases e4 : k = 4
    · subst e4
      rw [ex1_i]; simp [nst, nu]
    · have g1 : nst (A, C) (k, n, t) = (stay (A ++ C) (k, n, t), []) := by simp [nst, e3, e4]
      rw [g1]
      by_cases e1 : k = 1
      · subst e1
        obtain ⟨m, hm⟩ : ∃ m : Nat, n = (m + 1 : Nat) := ⟨(n - 1).toNat, by omega⟩
        subst hm
        rw [ex1_s, Int.toNat_natCast, nu_rep]
        rcases stay_cases (A ++ C) (1, ((m + 1 : Nat) : Int), t) with ⟨e, _⟩ | ⟨o, y, h1, hy1, _, e⟩
        · rw [e, ex_app, ex_app, ex_one, ex1_s, Int.toNat_natCast, ex_ins C hins]; simp
        · have hy := hall y (by rw [h1]; simp)
          have hyn : 1 ≤ y.2.1 := by rcases hy with ⟨_, h, _⟩ | ⟨h, _⟩ <;> omega
          rw [e, ← ex_ins C hins, ← ex_app, h1, ex_app, ex_app, ex_one, ex_one]
          obtain ⟨y1, y2, y3⟩ := y
          simp only at hy1 hyn ⊢
          subst hy1
          rw [ex1_s, ex1_s, List.append_assoc, List.replicate_append_replicate]
          have : y2.toNat + (m + 1) = (y2 + ((m + 1 : Nat) : Int)).toNat := by omega
          rw [this]; rfl
      · obtain rfl : k = 2 := by omega
        rw [ex1_k, stay_ne (A ++ C) (x := (2, n, t)) (by simp), ex_app, ex_app, ex_one, ex1_k, ex_ins C hins]
        simp [nu]
/-- steps in order, laid out -/
theorem ex_nrm (l : List Oq) (h : ∀ x ∈ l, al0 x) : ex (nrm l) = lin (ex l) := by
  have h1 := nu_lin (ex l) [] []
  rw [nfo_ex l h] at h1
  unfold nrm
  rw [ex_app, ex_ins _ (kept l h).ins]
  simpa [insL] using h1

/-- no two Skips side by side -/
def nadj : List Oq → Bool
  | x :: y :: l => !(x.1 == 1 && y.1 == 1) && nadj (y :: l)
  | _ => true
theorem os_mono (l : List Oq) : ∀ st : Option Int × Bool, (l.foldl os st).2 = true → st.2 = true := by
  induction l with
  | nil => intro st h; exact h
  | cons x l ih =>
    intro st h
    have := ih _ h
    simp only [os, Bool.and_eq_true] at this
    exact this.1
theorem nadj_of (l : List Oq) : ∀ st : Option Int × Bool, (l.foldl os st).2 = true → nadj l = true ∧ ∀ x, l.head? = some x → st.1 = some 1 → x.1 ≠ 1 := by
  induction l with
  | nil => intro st _; exact ⟨rfl, fun x hx => by cases hx⟩
  | cons x l ih =>
    intro st h
    rw [List.foldl_cons] at h
    obtain ⟨h1, h2⟩ := ih _ h
    have h3 := os_mono l _ h
    simp only [os, Bool.and_eq_true, okp] at h2 h3
    refine ⟨?_, ?_⟩
    · cases l with
      | nil => rfl
      | cons y l =>
        have := h2 y rfl
        simp only [nadj, h1, Bool.and_true]
        by_cases hx : x.1 = 1
        · have := this (by rw [hx]); simp [this]
        · simp [hx]
    · intro z hz hst
      simp only [List.head?_cons, Option.some.injEq] at hz
      subst hz
      intro e
      rw [hst, e] at h3
      simp at h3
def hdS : List Ut → Bool
  | .s :: _ => true
  | _ => false
theorem rep_inj (n : Nat) : ∀ (m : Nat) (A B : List Ut), hdS A = false → hdS B = false → List.replicate n Ut.s ++ A = List.replicate m Ut.s ++ B → n = m ∧ A = B := by
  induction n with
  | zero =>
    intro m A B hA hB h
    cases m with
    | zero => exact ⟨rfl, h⟩
    | succ m => simp only [List.replicate_zero, List.nil_append, List.replicate_succ, List.cons_append] at h; subst h; cases hA
  | succ n ih =>
    intro m A B hA hB h
    cases m with
    | zero => simp only [List.replicate_zero, List.nil_append, List.replicate_succ, List.cons_append] at h; subst h; cases hB
    | succ m =>
      simp only [List.replicate_succ, List.cons_append, List.cons.injEq, true_and] at h
      obtain ⟨rfl, h2⟩ := ih m A B hA hB h
      exact ⟨rfl, h2⟩
theorem ex_hdS {x : Oq} {l : List Oq} (h : nadj (x :: l) = true) (hx : x.1 = 1) (hal : ∀ y ∈ l, al0 y) : hdS (ex l) = false := by
  cases l with
  | nil => rfl
  | cons y l =>
    simp only [nadj, Bool.and_eq_true, hx] at h
    have hy1 : y.1 ≠ 1 := by intro e; simp [e] at h
    have := hal y (by simp)
    obtain ⟨k, n, t⟩ := y
    simp only [al0] at this hy1
    rcases this with ⟨h, _⟩ | ⟨h, _⟩
    · exact absurd h hy1
    · rcases h with rfl | rfl | rfl
      · rw [ex, ex1_k]; rfl
      · rw [ex, ex1_d]; rfl
      · rw [ex, ex1_i]; rfl
theorem nadj_tail {x : Oq} {l : List Oq} (h : nadj (x :: l) = true) : nadj l = true := by
  cases l with
  | nil => rfl
  | cons y l => simp only [nadj, Bool.and_eq_true] at h; exact h.2
/-- steps that are laid out in one way are the same -/
theorem ex_inj (l : List Oq) : ∀ m : List Oq, (∀ x ∈ l, al0 x) → (∀ x ∈ m, al0 x) → nadj l = true → nadj m = true → ex l = ex m → l = m := by
  have hne : ∀ (x : Oq), al0 x → ex1 x ≠ [] := by
    intro x hx
    obtain ⟨k, n, t⟩ := x
    simp only [al0] at hx
    rcases hx with ⟨rfl, h, _⟩ | ⟨h, _⟩
    · rw [ex1_s]
      obtain ⟨m, hm⟩ : ∃ m : Nat, n.toNat = m + 1 := ⟨(n - 1).toNat, by omega⟩
      rw [hm]; simp [List.replicate_succ]
    · rcases h with rfl | rfl | rfl <;> simp [ex1]
  induction l with
  | nil =>
    intro m _ hm _ _ h
    cases m with
    | nil => rfl
    | cons y m => exfalso; rw [ex, ex] at h; exact hne y (hm y (by simp)) (List.append_eq_nil_iff.1 h.symm).1
  | cons x l ih =>
    intro m hl hm nl nm h
    cases m with
    | nil => exfalso; rw [ex, ex] at h; exact hne x (hl x (by simp)) (List.append_eq_nil_iff.1 h).1
    | cons y m =>
      have hx := hl x (by simp)
      have hy := hm y (by simp)
      have hl' : ∀ z ∈ l, al0 z := fun z hz => hl z (by simp [hz])
      have hm' : ∀ z ∈ m, al0 z := fun z hz => hm z (by simp [hz])
      have sl := ex_hdS nl
      have sm := ex_hdS nm
      obtain ⟨xk, xn, xt⟩ := x
      obtain ⟨yk, yn, yt⟩ := y
      simp only [al0] at hx hy sl sm
      rw [ex, ex] at h
      rcases hx with ⟨rfl, hx1, rfl⟩ | ⟨hxk, rfl, _⟩
      · rcases hy with ⟨rfl, hy1, rfl⟩ | ⟨hyk, rfl, _⟩
        · rw [ex1_s, ex1_s] at h
          obtain ⟨e1, e2⟩ := rep_inj _ _ _ _ (sl rfl hl') (sm rfl hm') h
          have : xn = yn := by omega
          subst this
          rw [ih m hl' hm' (nadj_tail nl) (nadj_tail nm) e2]
        · exfalso
          obtain ⟨q, hq⟩ : ∃ q : Nat, xn.toNat = q + 1 := ⟨(xn - 1).toNat, by omega⟩
          rw [ex1_s, hq, List.replicate_succ] at h
          rcases hyk with rfl | rfl | rfl
          · rw [ex1_k] at h; simp at h
          · rw [ex1_d] at h; simp at h
          · rw [ex1_i] at h; simp at h
      · rcases hy with ⟨rfl, hy1, rfl⟩ | ⟨hyk, rfl, _⟩
        · exfalso
          obtain ⟨q, hq⟩ : ∃ q : Nat, yn.toNat = q + 1 := ⟨(yn - 1).toNat, by omega⟩
          rw [ex1_s, hq, List.replicate_succ] at h
          rcases hxk with rfl | rfl | rfl
          · rw [ex1_k] at h; simp at h
          · rw [ex1_d] at h; simp at h
          · rw [ex1_i] at h; simp at h
        · rcases hxk with rfl | rfl | rfl <;> rcases hyk with rfl | rfl | rfl <;> simp only [ex1_k, ex1_d, ex1_i, List.singleton_append, List.cons.injEq, Ut.k.injEq, Ut.d.injEq, Ut.i.injEq, reduceCtorEq, false_and] at h
          all_goals
            obtain ⟨rfl, h2⟩ := h
            rw [ih m hl' hm' (nadj_tail nl) (nadj_tail nm) h2]
theorem nrm_al0 {l : List Oq} (h : ∀ x ∈ l, al0 x) : ∀ x ∈ nrm l, al0 x := (kept l h).al
theorem nrm_nadj (l : List Oq) : nadj (nrm l) = true := (nadj_of (nrm l) _ (ord_nrm l).1).1
/-- steps are the same, in order, just if they are laid out in one way but for the order -/
theorem nrm_same {l m : List Oq} (hl : ∀ x ∈ l, al0 x) (hm : ∀ x ∈ m, al0 x) (h : lin (ex l) = lin (ex m)) : nrm l = nrm m :=
  ex_inj _ _ (nrm_al0 hl) (nrm_al0 hm) (nrm_nadj l) (nrm_nadj m) (by rw [ex_nrm l hl, ex_nrm m hm, h])
theorem lin_nrm {l : List Oq} (hl : ∀ x ∈ l, al0 x) : lin (ex (nrm l)) = lin (ex l) := by
  have h1 := ex_nrm (nrm l) (nrm_al0 hl)
  rw [nrm_nrm, ex_nrm l hl] at h1
  rw [ex_nrm l hl]; exact h1.symm

end Go.Proofs.Ytbmnflldjkcgnaa.Ol

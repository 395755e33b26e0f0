
/-
  Plain laws: steps behind each other turn nothing just if both sides of each stretch are one; something and its way back turn nothing; no condition but those that each states.
-/
import Derived.Test.YtbmnflldjkcgnaaHTidy
import Derived.Test.YtbmnflldjkcgnaaWPlain
namespace Go.Proofs.Ytbmnflldjkcgnaa.Ol
open Go.Proofs.Ytbmnflldjkcgnaa.Ln

/-- both sides' lines since the last Skip, and whether they were one at each -/
def sg (s : List Tx × List Tx × Bool) (x : Ut) : List Tx × List Tx × Bool :=
  match x with
  | .s => ([], [], s.2.2 && (s.1 == s.2.1))
  | .k t => (s.1 ++ [t], s.2.1 ++ [t], s.2.2)
  | .d t => (s.1 ++ [t], s.2.1, s.2.2)
  | .i t => (s.1, s.2.1 ++ [t], s.2.2)
def sgl (l : List Ut) (s : List Tx × List Tx × Bool) : List Tx × List Tx × Bool := l.foldl sg s
/-- is it idle? -/
def idU (l : List Ut) : Bool := (sgl l ([], [], true)).2.2 && ((sgl l ([], [], true)).1 == (sgl l ([], [], true)).2.1)
theorem sgl_cons (x : Ut) (l : List Ut) (s : List Tx × List Tx × Bool) : sgl (x :: l) s = sgl l (sg s x) := rfl
theorem sgl_app (a b : List Ut) (s : List Tx × List Tx × Bool) : sgl (a ++ b) s = sgl b (sgl a s) := by simp [sgl, List.foldl_append]
theorem sgl_insI (t : Tx) (c : List Ut) : ∀ s, sgl (insI t c) s = sgl (.i t :: c) s := by
  induction c with
  | nil => intro s; rfl
  | cons x c ih =>
    intro s
    cases x with
    | d u => rw [insI_d, sgl_cons, ih, sgl_cons, sgl_cons, sgl_cons]; rfl
    | s => rfl
    | k u => rfl
    | i u => rfl
theorem sgl_lin (l : List Ut) : ∀ s, sgl (lin l) s = sgl l s := by
  induction l with
  | nil => intro s; rfl
  | cons x l ih =>
    intro s
    rw [lin]
    cases x with
    | i t => rw [show consN (.i t) (lin l) = insI t (lin l) from rfl, sgl_insI, sgl_cons, ih, sgl_cons]
    | s => rw [show consN .s (lin l) = .s :: lin l from rfl, sgl_cons, ih, sgl_cons]
    | k t => rw [show consN (.k t) (lin l) = .k t :: lin l from rfl, sgl_cons, ih, sgl_cons]
    | d t => rw [show consN (.d t) (lin l) = .d t :: lin l from rfl, sgl_cons, ih, sgl_cons]
theorem idU_lin {a b : List Ut} (h : lin a = lin b) : idU a = idU b := by
  unfold idU; rw [← sgl_lin a, h, sgl_lin b]
theorem su_insI (f : Ut → Int) (t : Tx) (c : List Ut) : su f (insI t c) = f (.i t) + su f c := by
  induction c with
  | nil => rfl
  | cons x c ih =>
    cases x with
    | d u => rw [insI_d, su, ih, su]; omega
    | s => rfl
    | k u => rfl
    | i u => rfl
theorem su_lin (f : Ut → Int) (l : List Ut) : su f (lin l) = su f l := by
  induction l with
  | nil => rfl
  | cons x l ih =>
    rw [lin]
    cases x with
    | i t => rw [show consN (.i t) (lin l) = insI t (lin l) from rfl, su_insI, ih, su]
    | s => rw [show consN .s (lin l) = .s :: lin l from rfl, su, ih, su]
    | k t => rw [show consN (.k t) (lin l) = .k t :: lin l from rfl, su, ih, su]
    | d t => rw [show consN (.d t) (lin l) = .d t :: lin l from rfl, su, ih, su]
/-- something, and its way back behind lines that went: both sides are one -/
theorem cu_back (n : Nat) : ∀ (p : List Ut) (ts X : List Tx), p.length + p.length + ts.length < n → ∃ r Y, cu p (ts.map Ut.i ++ fu p) = some r ∧ sgl r (X ++ ts, X, true) = (Y, Y, true) ∧ su u3 r = su u3 p := by
  induction n with
  | zero => intro p ts X h; omega
  | succ n ih =>
    intro p ts X h
    cases p with
    | nil =>
      rw [show fu [] = [] from rfl, List.append_nil, cu_nil_l]
      refine ⟨_, X ++ ts, rfl, ?_, ?_⟩
      · clear h
        have key : ∀ (ts A B : List Tx), sgl (ts.map Ut.i) (A, B, true) = (A, B ++ ts, true) := by
          intro ts
          induction ts with
          | nil => intro A B; simp [sgl]
          | cons t ts ih2 => intro A B; rw [List.map_cons, sgl_cons]; show sgl _ (A, B ++ [t], true) = _; rw [ih2]; simp
        exact key ts (X ++ ts) X
      · clear h
        induction ts with
        | nil => rfl
        | cons t ts ih2 => rw [List.map_cons]; show u3 (.i t) + su u3 (ts.map Ut.i) = 0; rw [ih2]; rfl
    | cons x p =>
      by_cases hd : isD (x :: p) = true
      · obtain ⟨t, rfl⟩ : ∃ t, x = .d t := by cases x <;> first | exact ⟨_, rfl⟩ | (simp [isD] at hd)
        obtain ⟨r, Y, h1, h2, h3⟩ := ih p (ts ++ [t]) X (by simp at h ⊢; omega)
        refine ⟨.d t :: r, Y, ?_, ?_, ?_⟩
        · rw [cu_d, show ts.map Ut.i ++ fu (.d t :: p) = (ts ++ [t]).map Ut.i ++ fu p by simp [fu, fu1], h1]; rfl
        · rw [sgl_cons, ← h2]; simp [sg]
        · rw [su, h3, su]
      · have hd : isD (x :: p) = false := by simpa using hd
        cases ts with
        | cons t ts =>
          obtain ⟨r, Y, h1, h2, h3⟩ := ih (x :: p) ts (X ++ [t]) (by simp at h ⊢; omega)
          refine ⟨.i t :: r, Y, ?_, ?_, ?_⟩
          · rw [List.map_cons, List.cons_append, cu_i _ _ _ hd, h1]; rfl
          · rw [sgl_cons, ← h2]; simp [sg]
          · rw [su, h3]; show 0 + _ = _; omega
        | nil =>
          cases x with
          | d t => simp [isD] at hd
          | s =>
            obtain ⟨r, Y, h1, h2, h3⟩ := ih p [] [] (by simp at h ⊢; omega)
            rw [List.map_nil, List.nil_append] at h1
            refine ⟨.s :: r, Y, ?_, ?_, ?_⟩
            · rw [List.map_nil, List.nil_append, show fu (.s :: p) = .s :: fu p from rfl, cu_c _ _ _ _ hd rfl, h1]; rfl
            · rw [sgl_cons, ← h2]; simp [sg]
            · rw [su, h3, su]
          | k t =>
            obtain ⟨r, Y, h1, h2, h3⟩ := ih p [] (X ++ [t]) (by simp at h ⊢; omega)
            rw [List.map_nil, List.nil_append] at h1
            refine ⟨.k t :: r, Y, ?_, ?_, ?_⟩
            · rw [List.map_nil, List.nil_append, show fu (.k t :: p) = .k t :: fu p from rfl, cu_c _ _ _ _ hd rfl, h1]; simp [cb]
            · rw [sgl_cons, ← h2]; simp [sg]
            · rw [su, h3, su]
          | i t =>
            obtain ⟨r, Y, h1, h2, h3⟩ := ih p [] X (by simp at h ⊢; omega)
            rw [List.map_nil, List.nil_append] at h1
            refine ⟨r, Y, ?_, h2, ?_⟩
            · rw [List.map_nil, List.nil_append, show fu (.i t :: p) = .d t :: fu p from rfl, cu_c _ _ _ _ hd rfl, h1]; simp [cb]
            · rw [h3, su]; show _ = 0 + _; omega
/-- no change between two rows just if they are one -/
theorem df_idle (a b : List Tx) : chs (df a b) = 0 ↔ a = b := by
  constructor
  · intro h
    have h2 := (df_len a b).2
    have l := lc_le a b
    obtain ⟨s, ha, hb, e⟩ := lc_some a b
    have e1 : s = a := ha.eq_of_length (by omega)
    have e2 : s = b := hb.eq_of_length (by omega)
    rw [← e1, ← e2]
  · rintro rfl
    have h2 := (df_len a a).2
    rw [lc_self] at h2
    omega
theorem sg_rep (n : Nat) (s : List Tx × List Tx × Bool) : sgl (List.replicate (n + 1) Ut.s) s = ([], [], s.2.2 && (s.1 == s.2.1)) := by
  induction n generalizing s with
  | zero => rfl
  | succ n ih => rw [List.replicate_succ, sgl_cons, ih]; simp [sg]
/-- what the tidying has so far, told of the units -/
theorem tso_sg (l : List Oq) : (∀ x ∈ l, al0 x) → (sgl (ex l) ([], [], true)).1 = (tso l).2.1 ∧ (sgl (ex l) ([], [], true)).2.1 = (tso l).2.2 ∧ ((sgl (ex l) ([], [], true)).2.2 = true ↔ chs (tso l).1 = 0) := by
  refine snoc_ind (P := fun l => (∀ x ∈ l, al0 x) → (sgl (ex l) ([], [], true)).1 = (tso l).2.1 ∧ (sgl (ex l) ([], [], true)).2.1 = (tso l).2.2 ∧ ((sgl (ex l) ([], [], true)).2.2 = true ↔ chs (tso l).1 = 0)) ?_ ?_ l
  · intro _; exact ⟨rfl, rfl, by simp [sgl, ex, tso, chs]⟩
  · intro l x ih h
    obtain ⟨h1, h2, h3⟩ := ih (fun y hy => h y (by simp [hy]))
    have hx := h x (by simp)
    rw [ex_app, sgl_app, ex_one, tso_snoc]
    generalize sgl (ex l) ([], [], true) = s at h1 h2 h3
    obtain ⟨A, B, ok⟩ := s
    simp only at h1 h2 h3
    subst h1 h2
    obtain ⟨x1, x2, x3⟩ := x
    simp only [al0] at hx
    unfold ts
    by_cases e1 : x1 = 1
    · subst e1
      have hp : 1 ≤ x2 := by rcases hx with ⟨_, e, _⟩ | ⟨e, _⟩ <;> omega
      obtain ⟨n, hn⟩ : ∃ n : Nat, x2.toNat = n + 1 := ⟨x2.toNat - 1, by omega⟩
      rw [ex1_s, hn, sg_rep]
      refine ⟨rfl, rfl, ?_⟩
      simp only [if_true]
      rw [chs_app, chs_app, Bool.and_eq_true, h3, beq_iff_eq, ← df_idle]
      have : chs [((1, x2, x3) : Oq)] = 0 := by simp [chs, chg]
      omega
    · have hk : x1 = 2 ∨ x1 = 3 ∨ x1 = 4 := by omega
      rcases hk with rfl | rfl | rfl
      · rw [ex1_k]; exact ⟨by simp [sgl, sg], by simp [sgl, sg], by simpa [sgl, sg] using h3⟩
      · rw [ex1_d]; exact ⟨by simp [sgl, sg], by simp [sgl, sg], by simpa [sgl, sg] using h3⟩
      · rw [ex1_i]; exact ⟨by simp [sgl, sg], by simp [sgl, sg], by simpa [sgl, sg] using h3⟩
/-- steps are idle just if both sides of each stretch are one -/
theorem idle_iff {l : List Oq} (h : right l = true) : chs (tdy l) = 0 ↔ idU (ex l) = true := by
  have hal := right_al0 h
  have hk := (kept (td l) (td_al l hal)).ch
  obtain ⟨h1, h2, h3⟩ := tso_sg l hal
  have e : chs (tdy l) = chs (td l) := by unfold tdy; rw [if_pos h]; exact hk
  rw [e]
  unfold idU td
  rw [chs_app, h1, h2, Bool.and_eq_true, h3, beq_iff_eq, ← df_idle]
  omega
def fillQ (_j : Nat) : Tx := [63, 10]
/-- something and its way back leave all that is known as it is -/
theorem thn_back {p : List Oq} (h : right p = true) : ∃ c, thn p (flN p) = some c ∧ chs (tdy c) = 0 ∧ tot 3 c = tot 3 p ∧ tot 4 c = tot 3 p := by
  have hq : ∀ j, rt (fillQ j) = true ∧ cl (fillQ j) = true := fun _ => ⟨rfl, rfl⟩
  have hd := doo_wit hq h
  have hp := right_parts h
  have hl : (wit fillQ p).length ≤ 2147483648 := by
    have := (wso_len fillQ p (right_al0 h)).1
    unfold wit; omega
  obtain ⟨c, hc, _⟩ := thn_does hd (doo_flN hd) hl hl
  refine ⟨c, hc, ?_⟩
  have hct := thn_counts hc
  obtain ⟨f3, f4, _, _⟩ := flN_facts h
  obtain ⟨_, _, rc, _, r, _, _, hal, hce, hlin⟩ := thn_some hc
  have hu := ce_cu _ _ _ _ _ (Nat.lt_succ_self _) hce
  obtain ⟨r0, Y, e1, e2, e3⟩ := cu_back _ (ex p) [] [] (Nat.lt_succ_self _)
  rw [List.map_nil, List.nil_append] at e1
  have hE : Eqv (cu (ex p) (ex (flN p))) (cu (ex p) (fu (ex p))) := cu_eqv rfl (lin_flN h)
  rw [hu, e1] at hE
  have hE := Eqv.some_iff.1 hE
  have h1 : idU (ex c) = true := by
    rw [idU_lin (hlin.trans hE)]
    unfold idU
    rw [List.nil_append] at e2
    rw [e2]
    simp
  have h3 : tot 3 c = tot 3 p := by
    rw [← (su_facts c (right_al0 rc)).1, ← (su_facts p (right_al0 h)).1, ← su_lin, hlin.trans hE, su_lin, e3]
  exact ⟨(idle_iff rc).2 h1, h3, by omega⟩

end Go.Proofs.Ytbmnflldjkcgnaa.Ol

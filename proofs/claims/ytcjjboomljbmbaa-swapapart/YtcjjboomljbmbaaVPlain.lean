
/-
  Plain laws of steps that know less around: they do the same wherever they could be done; to trim twice is to trim to the less of both; no condition but those that each states.
-/
import Derived.Test.YtcjjboomljbmbaaYPlain
namespace Go.Proofs.Ytcjjboomljbmbaa.Ol
open Go.Proofs.Ytcjjboomljbmbaa.Ln

/-- how many known lines stand ahead of the next change -/
def dch : List Ut → Option Nat
  | [] => none
  | .s :: _ => none
  | .k _ :: l => (dch l).map (· + 1)
  | _ :: _ => some 0
def lto (o : Option Nat) (a : Nat) : Bool :=
  match o with
  | some n => decide (n < a)
  | none => false
/-- with so much around; b: how many known lines stand behind the last change -/
def tru (a : Nat) : Option Nat → List Ut → List Ut
  | _, [] => []
  | b, .k t :: l => (if lto b a || lto (dch l) a then .k t else .s) :: tru a (b.map (· + 1)) l
  | _, .s :: l => .s :: tru a none l
  | _, .d t :: l => .d t :: tru a (some 0) l
  | _, .i t :: l => .i t :: tru a (some 0) l
theorem tru_does (a : Nat) (l : List Ut) : ∀ (b : Option Nat) (z c : List Tx), rnu l z = some c → rnu (tru a b l) z = some c := by
  induction l with
  | nil => intro b z c h; exact h
  | cons x l ih =>
    intro b z c h
    cases x with
    | s =>
      cases z with
      | nil => cases h
      | cons t z =>
        simp only [rnu] at h
        obtain ⟨c', h1, rfl⟩ := Option.map_eq_some_iff.1 h
        rw [tru, rnu, ih _ z c' h1]; rfl
    | k u =>
      cases z with
      | nil => cases h
      | cons t z =>
        simp only [rnu] at h
        split at h
        · rename_i e; subst e
          obtain ⟨c', h1, rfl⟩ := Option.map_eq_some_iff.1 h
          rw [tru]
          split
          · rw [rnu, if_pos rfl, ih _ z c' h1]; rfl
          · rw [rnu, ih _ z c' h1]; rfl
        · cases h
    | d u =>
      cases z with
      | nil => cases h
      | cons t z =>
        simp only [rnu] at h
        split at h
        · rename_i e; subst e
          rw [tru, rnu, if_pos rfl, ih _ z c h]
        · cases h
    | i u =>
      simp only [rnu] at h
      obtain ⟨c', h1, rfl⟩ := Option.map_eq_some_iff.1 h
      rw [tru, rnu, ih _ z c' h1]; rfl
theorem nx_mono (l : List Ut) : ∀ e, nx l e = true → nx l false = true := by
  induction l with
  | nil => intro e _; rfl
  | cons x l ih =>
    intro e h
    cases x with
    | d t => exact ih e h
    | s => rw [nx_s, Bool.and_eq_true] at h; rw [nx_s, h.2]; rfl
    | k t => rw [nx_k, Bool.and_eq_true] at h; rw [nx_k, h.2]; rfl
    | i t => rw [nx_i, Bool.and_eq_true] at h; rw [nx_i, h.2]; rfl
theorem ox_mono (l : List Ut) : ∀ e, ox l e = true → ox l false = true := by
  induction l with
  | nil => intro e _; rfl
  | cons x l ih =>
    intro e h
    cases x with
    | i t => exact ih e h
    | s => rw [ox_s, Bool.and_eq_true] at h; rw [ox_s, h.2]; rfl
    | k t => rw [ox_k, Bool.and_eq_true] at h; rw [ox_k, h.2]; rfl
    | d t => rw [ox_d, Bool.and_eq_true] at h; rw [ox_d, h.2]; rfl
theorem tru_nx (a : Nat) (l : List Ut) : ∀ (b : Option Nat) (e : Bool), nx l e = true → nx (tru a b l) e = true := by
  induction l with
  | nil => intro b e h; exact h
  | cons x l ih =>
    intro b e h
    cases x with
    | d t => exact ih _ e h
    | s => rw [nx_s, Bool.and_eq_true] at h; rw [tru, nx_s, h.1, ih _ _ h.2]; rfl
    | i t => rw [nx_i, Bool.and_eq_true] at h; rw [tru, nx_i, h.1, ih _ _ h.2]; rfl
    | k t =>
      rw [nx_k, Bool.and_eq_true] at h
      rw [tru]
      split
      · rw [nx_k, h.1, ih _ _ h.2]; rfl
      · rw [nx_s, h.1, ih _ _ (nx_mono l _ h.2)]; rfl
theorem tru_ox (a : Nat) (l : List Ut) : ∀ (b : Option Nat) (e : Bool), ox l e = true → ox (tru a b l) e = true := by
  induction l with
  | nil => intro b e h; exact h
  | cons x l ih =>
    intro b e h
    cases x with
    | i t => exact ih _ e h
    | s => rw [ox_s, Bool.and_eq_true] at h; rw [tru, ox_s, h.1, ih _ _ h.2]; rfl
    | d t => rw [ox_d, Bool.and_eq_true] at h; rw [tru, ox_d, h.1, ih _ _ h.2]; rfl
    | k t =>
      rw [ox_k, Bool.and_eq_true] at h
      rw [tru]
      split
      · rw [ox_k, h.1, ih _ _ h.2]; rfl
      · rw [ox_s, h.1, ih _ _ (ox_mono l _ h.2)]; rfl
theorem tru_su (a : Nat) (l : List Ut) : ∀ b : Option Nat, su u3 (tru a b l) = su u3 l ∧ su u4 (tru a b l) = su u4 l ∧ su uc (tru a b l) = su uc l := by
  induction l with
  | nil => intro b; exact ⟨rfl, rfl, rfl⟩
  | cons x l ih =>
    intro b
    cases x with
    | d t => rw [tru]; simp only [su, ih]; exact ⟨trivial, trivial, trivial⟩
    | s => rw [tru]; simp only [su, ih]; exact ⟨trivial, trivial, trivial⟩
    | i t => rw [tru]; simp only [su, ih]; exact ⟨trivial, trivial, trivial⟩
    | k t => rw [tru]; split <;> (simp only [su, ih, u3, u4, uc]; exact ⟨trivial, trivial, trivial⟩)
theorem dch_tru (a : Nat) (l : List Ut) : ∀ b : Option Nat, dch (tru a b l) = dch l ∨ (dch (tru a b l) = none ∧ ∃ m, dch l = some m ∧ a ≤ m) := by
  induction l with
  | nil => intro b; exact Or.inl rfl
  | cons x l ih =>
    intro b
    cases x with
    | d t => exact Or.inl rfl
    | s => exact Or.inl rfl
    | i t => exact Or.inl rfl
    | k t =>
      rw [tru]
      split
      · rcases ih (b.map (· + 1)) with h | ⟨h, m, h1, h2⟩
        · exact Or.inl (by rw [dch, dch, h])
        · exact Or.inr ⟨by rw [dch, h]; rfl, m + 1, by rw [dch, h1]; rfl, by omega⟩
      · rename_i hc
        rw [Bool.or_eq_true, not_or] at hc
        rw [dch, dch]
        cases hd : dch l with
        | none => exact Or.inl rfl
        | some m =>
          refine Or.inr ⟨rfl, m + 1, rfl, ?_⟩
          have := hc.2
          rw [hd] at this
          simp only [lto, decide_eq_true_eq] at this
          omega
/-- to trim twice is to trim to the less of both -/
theorem tru_tru (a b : Nat) (l : List Ut) : ∀ s1 s2 : Option Nat, (s2 = s1 ∨ (s2 = none ∧ ∃ n, s1 = some n ∧ a ≤ n)) → tru b s2 (tru a s1 l) = tru (min a b) s1 l := by
  induction l with
  | nil => intro s1 s2 _; rfl
  | cons x l ih =>
    intro s1 s2 hs
    cases x with
    | d t => simp only [tru]; rw [ih _ _ (Or.inl rfl)]
    | s => simp only [tru]; rw [ih _ _ (Or.inl rfl)]
    | i t => simp only [tru]; rw [ih _ _ (Or.inl rfl)]
    | k t =>
      have hd := dch_tru a l (s1.map (· + 1))
      rw [tru, tru]
      cases hc : (lto s1 a || lto (dch l) a) with
      | true =>
        rw [if_pos rfl, tru]
        have hs' : s2.map (· + 1) = s1.map (· + 1) ∨ (s2.map (· + 1) = none ∧ ∃ n, s1.map (· + 1) = some n ∧ a ≤ n) := by
          rcases hs with rfl | ⟨rfl, n, rfl, hn⟩
          · exact Or.inl rfl
          · exact Or.inr ⟨rfl, n + 1, rfl, by omega⟩
        rw [ih _ _ hs']
        congr 1
        have key : (lto s2 b || lto (dch (tru a (s1.map (· + 1)) l)) b) = (lto s1 (min a b) || lto (dch l) (min a b)) := by
          rw [Bool.eq_iff_iff]
          simp only [Bool.or_eq_true] at hc ⊢
          rcases hs with rfl | ⟨rfl, n, rfl, hn⟩ <;> rcases hd with h | ⟨h, m, h1, h2⟩
          · rw [h]; cases s2 <;> cases hdl : dch l <;> rw [hdl] at hc <;> simp only [lto, decide_eq_true_eq, Bool.false_eq_true, or_false, false_or, or_self] at hc ⊢ <;> omega
          · rw [h, h1]; rw [h1] at hc; cases s2 <;> simp only [lto, decide_eq_true_eq, Bool.false_eq_true, or_false, false_or, or_self] at hc ⊢ <;> omega
          · rw [h]; cases hdl : dch l <;> rw [hdl] at hc <;> simp only [lto, decide_eq_true_eq, Bool.false_eq_true, or_false, false_or, or_self] at hc ⊢ <;> omega
          · rw [h, h1]; rw [h1] at hc; simp only [lto, decide_eq_true_eq, Bool.false_eq_true, or_self] at hc ⊢; omega
        rw [key]
      | false =>
        rw [if_neg (by simp), tru]
        rw [Bool.or_eq_false_iff] at hc
        have hs' : none = s1.map (· + 1) ∨ ((none : Option Nat) = none ∧ ∃ n, s1.map (· + 1) = some n ∧ a ≤ n) := by
          cases s1 with
          | none => exact Or.inl rfl
          | some n =>
            have := hc.1
            simp only [lto, decide_eq_false_iff_not] at this
            exact Or.inr ⟨rfl, n + 1, rfl, by omega⟩
        rw [ih _ _ hs', if_neg]
        have h1 := hc.1
        have h2 := hc.2
        cases s1 <;> cases hdl : dch l <;> rw [hdl] at h2 <;> simp only [lto, decide_eq_false_iff_not, decide_eq_true_eq, Bool.or_eq_true, Bool.false_eq_true, or_false, false_or, or_self, not_false_eq_true] at h1 h2 ⊢ <;> omega
theorem dch_rep (l : List Ut) (k : Nat) : dch (l ++ List.replicate k Ut.s) = dch l := by
  induction l with
  | nil => cases k <;> rfl
  | cons x l ih =>
    cases x with
    | k t => rw [List.cons_append, dch, dch, ih]
    | s => rfl
    | d t => rfl
    | i t => rfl
theorem tru_rep0 (a : Nat) (k : Nat) : ∀ b : Option Nat, tru a b (List.replicate k Ut.s) = List.replicate k Ut.s := by
  induction k with
  | zero => intro b; rfl
  | succ k ih => intro b; rw [List.replicate_succ, tru, ih]
theorem tru_rep (a : Nat) (l : List Ut) (k : Nat) : ∀ b : Option Nat, tru a b (l ++ List.replicate k Ut.s) = tru a b l ++ List.replicate k Ut.s := by
  induction l with
  | nil => intro b; exact tru_rep0 a k b
  | cons x l ih =>
    intro b
    cases x with
    | k t => rw [List.cons_append, tru, tru, dch_rep, ih]; rfl
    | s => rw [List.cons_append, tru, tru, ih]; rfl
    | d t => rw [List.cons_append, tru, tru, ih]; rfl
    | i t => rw [List.cons_append, tru, tru, ih]; rfl
theorem tru_isD (a : Nat) (b : Option Nat) (l : List Ut) : isD (tru a b l) = isD l := by
  cases l with
  | nil => rfl
  | cons x l =>
    cases x with
    | k t => rw [tru]; split <;> rfl
    | s => rfl
    | d t => rfl
    | i t => rfl
theorem tru_srt (a : Nat) (l : List Ut) : ∀ b : Option Nat, srt l = true → srt (tru a b l) = true := by
  induction l with
  | nil => intro b h; exact h
  | cons x l ih =>
    intro b h
    cases x with
    | k t => rw [tru]; split <;> exact ih _ h
    | s => exact ih _ h
    | d t => exact ih _ h
    | i t =>
      rw [srt, Bool.and_eq_true] at h
      rw [tru, srt, tru_isD, h.1, ih _ h.2]; rfl

/-- steps with so much around, ahead of order -/
def dno : List Oq → Option Nat
  | [] => none
  | x :: l => if x.1 = 1 then none else if x.1 = 2 then (dno l).map (· + 1) else some 0
def trO (a : Nat) : Option Nat → List Oq → List Oq
  | _, [] => []
  | b, x :: l => (if x.1 = 2 ∧ ¬ (lto b a || lto (dno l) a) = true then (1, 1, []) else x) :: trO a (if x.1 = 1 then none else if x.1 = 2 then b.map (· + 1) else some 0) l
/-- steps with so much around -/
def trm (l : List Oq) (a : Nat) : List Oq := if right l = true then rst (nrm (trO a none (nrm l))) else []
theorem trm_right {m : List Oq} (h : right m = true) (a : Nat) : trm m a = rst (nrm (trO a none (nrm m))) := by unfold trm; rw [if_pos h]
theorem dno_ex (l : List Oq) (h : ∀ x ∈ l, al0 x) : dch (ex l) = dno l := by
  induction l with
  | nil => rfl
  | cons x l ih =>
    have i := ih (fun z hz => h z (by simp [hz]))
    rw [ex]
    rcases al_cases (h x (by simp)) with ⟨n, rfl⟩ | ⟨t, rfl⟩ | ⟨t, rfl⟩ | ⟨t, rfl⟩
    · rw [ex1_n]; rfl
    · rw [ex1_k]; show (dch (ex l)).map (· + 1) = _; rw [i]; rfl
    · rfl
    · rfl
theorem tru_reps (a n : Nat) (l : List Ut) (b : Option Nat) : tru a b (List.replicate (n + 1) Ut.s ++ l) = List.replicate (n + 1) Ut.s ++ tru a none l := by
  induction n generalizing b with
  | zero => rfl
  | succ n ih => rw [List.replicate_succ, List.cons_append, tru, ih, List.replicate_succ]; rfl
theorem ex_trO (a : Nat) (l : List Oq) (h : ∀ x ∈ l, al0 x) : ∀ b, ex (trO a b l) = tru a b (ex l) := by
  induction l with
  | nil => intro b; rfl
  | cons x l ih =>
    intro b
    have hl : ∀ z ∈ l, al0 z := fun z hz => h z (by simp [hz])
    have i := ih hl
    have hd := dno_ex l hl
    rw [trO, ex, ex, i]
    rcases al_cases (h x (by simp)) with ⟨n, rfl⟩ | ⟨t, rfl⟩ | ⟨t, rfl⟩ | ⟨t, rfl⟩
    · rw [if_neg (by simp), if_pos rfl, ex1_n, tru_reps]
    · show ex1 (if (2 : Int) = 2 ∧ ¬ (lto b a || lto (dno l) a) = true then (1, 1, []) else (2, 0, t)) ++ tru a (b.map (· + 1)) (ex l) = _
      rw [ex1_k, List.singleton_append, tru, hd]
      cases lto b a || lto (dno l) a <;> rfl
    · rfl
    · rfl
theorem trO_al (a : Nat) (l : List Oq) (h : ∀ x ∈ l, al0 x) : ∀ b, ∀ x ∈ trO a b l, al0 x := by
  induction l with
  | nil => intro b x hx; cases hx
  | cons y l ih =>
    intro b x hx
    rw [trO] at hx
    rcases List.mem_cons.1 hx with rfl | hx
    · split
      · exact Or.inl ⟨rfl, by decide, rfl⟩
      · exact h y (by simp)
    · exact ih (fun z hz => h z (by simp [hz])) _ x hx
/-- what stands ahead of the Skips at the end -/
theorem rst_is (l : List Oq) (h : ∀ x ∈ l, al0 x) : ∃ k, ex l = ex (rst l) ++ List.replicate k Ut.s ∧ ∀ x ∈ rst l, al0 x := by
  refine snoc_ind (P := fun l => (∀ x ∈ l, al0 x) → ∃ k, ex l = ex (rst l) ++ List.replicate k Ut.s ∧ ∀ x ∈ rst l, al0 x) ?_ ?_ l h
  · intro _; exact ⟨0, rfl, fun x hx => by cases hx⟩
  · intro l x ih h
    have hl : ∀ z ∈ l, al0 z := fun z hz => h z (by simp [hz])
    by_cases h1 : x.1 = 1
    · obtain ⟨k, e, ha⟩ := ih hl
      have hr : rst (l ++ [x]) = rst l := by unfold rst; simp [h1]
      rw [hr, ex_app, e, ex_one]
      rcases al_cases (h x (by simp)) with ⟨n, rfl⟩ | ⟨t, rfl⟩ | ⟨t, rfl⟩ | ⟨t, rfl⟩
      · rw [ex1_n, List.append_assoc, List.replicate_append_replicate]
        exact ⟨_, rfl, ha⟩
      · exact absurd (show (2 : Int) = 1 from h1) (by decide)
      · exact absurd (show (3 : Int) = 1 from h1) (by decide)
      · exact absurd (show (4 : Int) = 1 from h1) (by decide)
    · have hr : rst (l ++ [x]) = l ++ [x] := by unfold rst; simp [h1]
      rw [hr]
      exact ⟨0, by simp, h⟩
theorem rst_same {l m : List Oq} (hl : ∀ x ∈ l, al0 x) (hm : ∀ x ∈ m, al0 x) (k : Nat) (h : lin (ex l) = lin (ex m) ++ List.replicate k Ut.s) : rst (nrm l) = rst (nrm m) := by
  cases k with
  | zero =>
    rw [List.replicate_zero, List.append_nil] at h
    rw [nrm_same hl hm h]
  | succ k =>
    have : nrm l = nrm (m ++ [(1, ((k + 1 : Nat) : Int), [])]) := by
      refine nrm_same hl ?_ (by rw [h, ex_app, ex_one, ex1_n, lin_rep])
      intro x hx
      rcases List.mem_append.1 hx with hx | hx
      · exact hm x hx
      · simp only [List.mem_cons, List.not_mem_nil, or_false] at hx; subst hx; exact Or.inl ⟨rfl, by show (1 : Int) ≤ ((k + 1 : Nat) : Int); omega, rfl⟩
    rw [this, nrm_snoc1, rst_stay]
theorem su_repN (f : Ut → Int) (h : 0 ≤ f .s) (k : Nat) : 0 ≤ su f (List.replicate k Ut.s) := by
  induction k with
  | zero => exact Int.le_refl _
  | succ k ih => rw [List.replicate_succ, su]; omega
theorem nx_pre (a b : List Ut) : ∀ e, nx (a ++ b) e = true → nx a e = true := by
  induction a with
  | nil => intro e _; rfl
  | cons x a ih =>
    intro e h
    cases x with
    | d t => exact ih e h
    | s => rw [List.cons_append, nx_s, Bool.and_eq_true] at h; rw [nx_s, h.1, ih _ h.2]; rfl
    | k t => rw [List.cons_append, nx_k, Bool.and_eq_true] at h; rw [nx_k, h.1, ih _ h.2]; rfl
    | i t => rw [List.cons_append, nx_i, Bool.and_eq_true] at h; rw [nx_i, h.1, ih _ h.2]; rfl
theorem ox_pre (a b : List Ut) : ∀ e, ox (a ++ b) e = true → ox a e = true := by
  induction a with
  | nil => intro e _; rfl
  | cons x a ih =>
    intro e h
    cases x with
    | i t => exact ih e h
    | s => rw [List.cons_append, ox_s, Bool.and_eq_true] at h; rw [ox_s, h.1, ih _ h.2]; rfl
    | k t => rw [List.cons_append, ox_k, Bool.and_eq_true] at h; rw [ox_k, h.1, ih _ h.2]; rfl
    | d t => rw [List.cons_append, ox_d, Bool.and_eq_true] at h; rw [ox_d, h.1, ih _ h.2]; rfl
/-- what is trimmed, laid out -/
structure Tr (l : List Oq) (a : Nat) (m : List Oq) (k : Nat) : Prop where
  al : ∀ x ∈ m, al0 x
  e : tru a none (ex (nrm l)) = ex m ++ List.replicate k Ut.s
  srt_ : srt (ex (nrm l)) = true
  nm : nrm m = m
  rt_ : right m = true
theorem srt_pre (a b : List Ut) (h : srt (a ++ b) = true) : srt a = true := by
  induction a with
  | nil => rfl
  | cons x a ih =>
    cases x with
    | s => exact ih h
    | k t => exact ih h
    | d t => exact ih h
    | i t =>
      rw [List.cons_append, srt, Bool.and_eq_true] at h
      rw [srt, ih h.2, Bool.and_true]
      cases a with
      | nil => rfl
      | cons y a => rw [isD_hd]; have := h.1; rw [List.cons_append, isD_hd] at this; exact this
theorem nadj_pre (a b : List Oq) (h : nadj (a ++ b) = true) : nadj a = true := by
  induction a with
  | nil => rfl
  | cons x a ih =>
    cases a with
    | nil => rfl
    | cons y a =>
      rw [List.cons_append, List.cons_append, nadj, Bool.and_eq_true] at h
      rw [nadj, h.1, ih h.2]; rfl
theorem rst_pre (l : List Oq) : ∃ s, l = rst l ++ s := by
  refine ⟨(l.reverse.takeWhile fun x => x.1 == 1).reverse, ?_⟩
  unfold rst
  rw [← List.reverse_append, List.takeWhile_append_dropWhile, List.reverse_reverse]
theorem trm_is {l : List Oq} (h : right l = true) (a : Nat) : ∃ k, Tr l a (trm l a) k := by
  have an := nrm_al0 (right_al0 h)
  have at_ := trO_al a _ an none
  have hs : srt (ex (nrm l)) = true := by rw [ex_nrm _ (right_al0 h)]; exact srt_lin _
  have he : ex (nrm (trO a none (nrm l))) = tru a none (ex (nrm l)) := by
    rw [ex_nrm _ at_, ex_trO a _ an, lin_srt _ (tru_srt a _ none hs)]
  obtain ⟨k, e, hal⟩ := rst_is (nrm (trO a none (nrm l))) (nrm_al0 at_)
  rw [he] at e
  have hm : trm l a = rst (nrm (trO a none (nrm l))) := by unfold trm; rw [if_pos h]
  rw [← hm] at e hal
  have hsm : srt (ex (trm l a)) = true := srt_pre _ _ (by rw [← e]; exact tru_srt a _ none hs)
  have hnm : nrm (trm l a) = trm l a := by
    refine ex_inj _ _ (nrm_al0 hal) hal (nrm_nadj _) ?_ (by rw [ex_nrm _ hal, lin_srt _ hsm])
    rw [hm]
    obtain ⟨s, hs⟩ := rst_pre (nrm (trO a none (nrm l)))
    exact nadj_pre _ s (by rw [← hs]; exact nrm_nadj _)
  refine ⟨k, hal, e, hs, hnm, ?_⟩
  have hr := right_ux (right_nrm h)
  obtain ⟨c3, c4, _⟩ := tru_su a (ex (nrm l)) none
  rw [e, su_app] at c3 c4
  have p3 := su_repN u3 (by decide) k
  have p4 := su_repN u4 (by decide) k
  rw [← hnm]
  refine (right_u hal).2 ⟨ox_pre _ _ _ (by rw [← e]; exact tru_ox a _ none _ hr.1), nx_pre _ _ _ (by rw [← e]; exact tru_nx a _ none _ hr.2.1), by omega, by omega⟩
/-- to trim twice is to trim to the less of both -/
theorem trm_twice {l : List Oq} (h : right l = true) (a b : Nat) : trm (trm l a) b = trm l (min a b) := by
  obtain ⟨k, T⟩ := trm_is h a
  have an := nrm_al0 (right_al0 h)
  have hm1 : trm l (min a b) = rst (nrm (trO (min a b) none (nrm l))) := by unfold trm; rw [if_pos h]
  have hm2 : trm (trm l a) b = rst (nrm (trO b none (trm l a))) := by
    rw [trm_right T.rt_, T.nm]
  rw [hm1, hm2]
  refine (rst_same (trO_al _ _ an none) (trO_al _ _ T.al none) k ?_).symm
  rw [ex_trO _ _ an, ex_trO _ _ T.al, ← lin_rep, ← tru_rep, ← T.e, tru_tru a b _ none none (Or.inl rfl)]
/-- with less around steps do the same -/
theorem trm_does {l : List Oq} {old c : List Tx} (h : doo l old = some c) (a : Nat) : doo (trm l a) old = some c ∧ chs (trm l a) = chs l := by
  have hr := (doo_some h).1
  rw [← doo_nrm l old hr] at h
  obtain ⟨rp, wo, o1, p1, d1, ea, wa, hDn⟩ := doo_some h
  obtain ⟨k, T⟩ := trm_is hr a
  have an := right_al0 rp
  have u1 : rnu (ex (nrm l)) old = some c := by rw [← rnu_dsl an, d1, ea]; rfl
  have u2 := tru_does a _ none _ _ u1
  rw [T.e] at u2
  have u3 : rnu (ex (trm l a)) old = some c := by
    generalize ex (trm l a) = m at u2
    clear T u1 ea d1 wa h wo hDn
    induction m generalizing old c with
    | nil =>
      rw [List.nil_append, show List.replicate k Ut.s = List.replicate k Ut.s ++ [] by simp, rnu_rep] at u2
      split at u2
      · simpa [rnu] using u2
      · cases u2
    | cons x m ih =>
      cases x with
      | s =>
        cases old with
        | nil => cases u2
        | cons t z =>
          simp only [List.cons_append, rnu] at u2 ⊢
          obtain ⟨c', h1, rfl⟩ := Option.map_eq_some_iff.1 u2
          rw [ih h1]; rfl
      | k u =>
        cases old with
        | nil => cases u2
        | cons t z =>
          simp only [List.cons_append, rnu] at u2 ⊢
          split at u2
          · rename_i e
            obtain ⟨c', h1, rfl⟩ := Option.map_eq_some_iff.1 u2
            rw [if_pos e, ih h1]; rfl
          · cases u2
      | d u =>
        cases old with
        | nil => cases u2
        | cons t z =>
          simp only [List.cons_append, rnu] at u2 ⊢
          split at u2
          · rename_i e
            rw [if_pos e, ih u2]
          · cases u2
      | i u =>
        simp only [List.cons_append, rnu] at u2 ⊢
        obtain ⟨c', h1, rfl⟩ := Option.map_eq_some_iff.1 u2
        rw [ih h1]; rfl
  rw [← rnu_dsl T.al] at u3
  obtain ⟨⟨o, pp⟩, hd, hs⟩ := Option.map_eq_some_iff.1 u3
  simp only at hs
  refine ⟨?_, ?_⟩
  · unfold doo
    rw [if_pos ⟨T.rt_, wo⟩, hd]
    simp only
    rw [hs, if_pos wa]
  · have c1 := (su_facts _ T.al).2.2
    have c2 := (su_facts _ an).2.2
    have c3 := (tru_su a (ex (nrm l)) none).2.2
    rw [T.e, su_app, su_rep0 uc k rfl, c1, c2, chs_nrm (right_al0 hr)] at c3
    omega
/-- nothing around -/
theorem trO_zero (l : List Oq) : ∀ b, trO 0 b l = l.map un1 := by
  induction l with
  | nil => intro b; rfl
  | cons x l ih =>
    intro b
    have h0 : ∀ o, lto o 0 = false := fun o => by cases o <;> simp [lto]
    rw [trO, ih, List.map_cons, h0, h0]
    congr 1
    unfold un1
    by_cases h : x.1 = 2 <;> simp [h]
theorem trm_zero {l : List Oq} (h : right l = true) : trm l 0 = tr0 l := by
  unfold trm tr0; rw [if_pos h, trO_zero]

end Go.Proofs.Ytcjjboomljbmbaa.Ol

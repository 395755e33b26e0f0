
/-
  Plain laws of two rows of unit steps that change places: put in the other order once more they are what they were; each keeps its changes; no condition but those that each states.
-/
import Derived.Test.YtcjjboomljbmbaaXUnit
namespace Go.Proofs.Ytcjjboomljbmbaa.Ol
open Go.Proofs.Ytcjjboomljbmbaa.Ln

/-- what a middle leaves, in short -/
theorem cbT_is {x y : Ut} {o : List Tg} {b : Bool} (h : cbT x y = some (o, b)) : b = true ∨ (x = .s ∧ y = .s ∧ o = [.s]) ∨ (∃ t, (x = .s ∨ x = .k t) ∧ (y = .s ∨ y = .k t) ∧ ¬ (x = .s ∧ y = .s) ∧ o = [.k t]) ∨ (∃ t, (x = .s ∨ x = .k t) ∧ y = .d t ∧ o = [.d2 t]) ∨ (∃ t, x = .i t ∧ (y = .s ∨ y = .k t) ∧ o = [.i1 t]) := by
  cases x <;> cases y <;> simp [cbT] at h
  all_goals first
    | (obtain ⟨rfl, rfl⟩ := h; simp; done)
    | (obtain ⟨rfl, rfl, rfl⟩ := h; simp; done)

/-- behind a step of the first nothing of the second goes -/
theorem nb_fs (l : List Tg) (h : nb 1 l = false) : isD (fs l) = false := by
  induction l with
  | nil => rfl
  | cons x l ih =>
    obtain ⟨h1, h2⟩ := nb_cons h
    cases x with
    | s => rfl
    | k t => rfl
    | d1 t => rfl
    | i1 t => exact ih h2
    | d2 t => simp [tag] at h1
    | i2 t => rfl
/-- in the other order they tell the same, each for the other -/
theorem ct_two (l : List Tg) : ∀ (e : Bool) (j : Nat), nb j l = false → nx (fs l) e = true → ct e (fs l) (sn l) = some (sw l, false) := by
  induction l with
  | nil => intro e j _ _; exact ct_nil e
  | cons x l ih =>
    intro e j hn hx
    obtain ⟨_, h2⟩ := nb_cons hn
    cases x with
    | s =>
      rw [fs, nx_s, Bool.and_eq_true] at hx
      obtain rfl : e = false := by simpa using hx.1
      rw [fs, sn, ct_c _ _ _ rfl rfl rfl, if_neg (by simp)]
      simp only [hdU_cons, List.tail_cons, cbT, Option.bind_some, opU, Bool.or_self]
      rw [ih false _ h2 hx.2]; rfl
    | k t =>
      rw [fs, nx_k, Bool.and_eq_true] at hx
      obtain rfl : e = false := by simpa using hx.1
      rw [fs, sn, ct_c _ _ _ rfl rfl rfl, if_neg (by simp)]
      simp only [hdU_cons, List.tail_cons, cbT, if_true, Option.bind_some, opU, Bool.or_self]
      rw [ih _ _ h2 hx.2]; rfl
    | d1 t =>
      rw [fs, nx_k, Bool.and_eq_true] at hx
      obtain rfl : e = false := by simpa using hx.1
      rw [fs, sn, ct_c _ _ _ rfl rfl rfl, if_neg (by simp)]
      simp only [hdU_cons, List.tail_cons, cbT, if_true, Option.bind_some, opU, Bool.or_self]
      rw [ih _ _ h2 hx.2]; rfl
    | d2 t =>
      rw [fs, sn, ct_d, ih e _ h2 hx]; rfl
    | i1 t =>
      rw [fs, sn, ct_i _ _ _ _ (nb_fs l h2), ih e _ h2 hx]; rfl
    | i2 t =>
      rw [fs, nx_i, Bool.and_eq_true] at hx
      obtain rfl : e = false := by simpa using hx.1
      rw [fs, sn, ct_c _ _ _ rfl rfl rfl, if_neg (by simp)]
      simp only [hdU_cons, List.tail_cons, cbT, if_true, Option.bind_some, opU, Bool.or_self]
      rw [ih _ _ h2 hx.2]; rfl

/-- in order -/
def insT (x : Tg) : List Tg → List Tg
  | .d1 u :: c => .d1 u :: insT x c
  | .d2 u :: c => .d2 u :: insT x c
  | c => x :: c
def consT : Tg → List Tg → List Tg
  | .i1 t, c => insT (.i1 t) c
  | .i2 t, c => insT (.i2 t) c
  | x, c => x :: c
def linT : List Tg → List Tg
  | [] => []
  | x :: l => consT x (linT l)
theorem nb_insT {x : Tg} (hx : tag x ≠ 0) (c : List Tg) : ∀ j, nb (tag x) c = false → (j = 0 ∨ j = tag x) → nb j (insT x c) = false := by
  induction c with
  | nil => intro j _ hj; exact nb_mk (by rcases hj with h | h; exact Or.inl h; exact Or.inr (Or.inr h)) rfl
  | cons y c ih =>
    intro j h hj
    obtain ⟨h1, h2⟩ := nb_cons h
    have hj2 : j = 0 ∨ tag x = 0 ∨ j = tag x := by rcases hj with h | h; exact Or.inl h; exact Or.inr (Or.inr h)
    cases y with
    | d1 u =>
      have e : tag x = 1 := by rcases h1 with h | h | h; exact absurd h hx; cases h; exact h
      exact nb_mk (by rcases hj with h | h; exact Or.inl h; exact Or.inr (Or.inr (h.trans e))) (ih 1 (by rw [e]; exact h2) (Or.inr e.symm))
    | d2 u =>
      have e : tag x = 2 := by rcases h1 with h | h | h; exact absurd h hx; cases h; exact h
      exact nb_mk (by rcases hj with h | h; exact Or.inl h; exact Or.inr (Or.inr (h.trans e))) (ih 2 (by rw [e]; exact h2) (Or.inr e.symm))
    | s => exact nb_mk hj2 h
    | k t => exact nb_mk hj2 h
    | i1 t => exact nb_mk hj2 h
    | i2 t => exact nb_mk hj2 h
theorem nb_linT (l : List Tg) : ∀ j, nb j l = false → nb j (linT l) = false := by
  induction l with
  | nil => intro j h; exact h
  | cons x l ih =>
    intro j h
    obtain ⟨h1, h2⟩ := nb_cons h
    have h3 := ih _ h2
    cases x with
    | i1 t => exact nb_insT (by simp [tag]) _ j h3 (by rcases h1 with h | h | h; exact Or.inl h; cases h; exact Or.inr h)
    | i2 t => exact nb_insT (by simp [tag]) _ j h3 (by rcases h1 with h | h | h; exact Or.inl h; cases h; exact Or.inr h)
    | s => exact nb_mk h1 h3
    | k t => exact nb_mk h1 h3
    | d1 t => exact nb_mk h1 h3
    | d2 t => exact nb_mk h1 h3
theorem fs_ins1 (t : Tx) (c : List Tg) : fs (insT (.i1 t) c) = fs c := by
  induction c with
  | nil => rfl
  | cons y c ih => cases y <;> simp only [insT, fs, ih]
theorem sn_ins2 (t : Tx) (c : List Tg) (h : nb 2 c = false) : sn (insT (.i2 t) c) = .k t :: sn c := by
  induction c with
  | nil => rfl
  | cons y c ih =>
    obtain ⟨h1, h2⟩ := nb_cons h
    cases y with
    | d1 u => simp [tag] at h1
    | d2 u => simp only [insT, sn]; exact ih h2
    | s => rfl
    | k t => rfl
    | i1 t => rfl
    | i2 t => rfl
theorem fs_ins2 (t : Tx) (c : List Tg) (h : nb 2 c = false) : fs (insT (.i2 t) c) = insI t (fs c) := by
  induction c with
  | nil => rfl
  | cons y c ih =>
    obtain ⟨h1, h2⟩ := nb_cons h
    cases y with
    | d1 u => simp [tag] at h1
    | d2 u => simp only [insT, fs, insI]; rw [ih h2]
    | s => rfl
    | k t => rfl
    | i1 t => simp [tag] at h1
    | i2 t => rfl
theorem sn_ins1 (t : Tx) (c : List Tg) (h : nb 1 c = false) : sn (insT (.i1 t) c) = insI t (sn c) := by
  induction c with
  | nil => rfl
  | cons y c ih =>
    obtain ⟨h1, h2⟩ := nb_cons h
    cases y with
    | d2 u => simp [tag] at h1
    | d1 u => simp only [insT, sn, insI]; rw [ih h2]
    | s => rfl
    | k t => rfl
    | i2 t => simp [tag] at h1
    | i1 t => rfl
theorem fs_lin (l : List Tg) : ∀ j, nb j l = false → fs (linT l) = lin (fs l) := by
  induction l with
  | nil => intro j _; rfl
  | cons x l ih =>
    intro j h
    obtain ⟨h1, h2⟩ := nb_cons h
    have e := ih _ h2
    cases x with
    | i1 t => exact (fs_ins1 t _).trans e
    | i2 t => exact (fs_ins2 t _ (nb_linT l 2 h2)).trans (by rw [e]; rfl)
    | s => simp only [linT, consT, fs, lin, consN, e]
    | k t => simp only [linT, consT, fs, lin, consN, e]
    | d1 t => simp only [linT, consT, fs, lin, consN, e]
    | d2 t => simp only [linT, consT, fs, lin, consN, e]
theorem sn_lin (l : List Tg) : ∀ j, nb j l = false → sn (linT l) = lin (sn l) := by
  induction l with
  | nil => intro j _; rfl
  | cons x l ih =>
    intro j h
    obtain ⟨h1, h2⟩ := nb_cons h
    have e := ih _ h2
    cases x with
    | i1 t => exact (sn_ins1 t _ (nb_linT l 1 h2)).trans (by rw [e]; rfl)
    | i2 t => exact (sn_ins2 t _ (nb_linT l 2 h2)).trans (by rw [e]; rfl)
    | s => simp only [linT, consT, sn, lin, consN, e]
    | k t => simp only [linT, consT, sn, lin, consN, e]
    | d1 t => simp only [linT, consT, sn, lin, consN, e]
    | d2 t => simp only [linT, consT, sn, e]
theorem tu_ins (x : Tg) (t : Tx) (hx : tu x = .i t) (c : List Tg) : (insT x c).map tu = insI t (c.map tu) := by
  induction c with
  | nil => simp [insT, insI, hx]
  | cons y c ih =>
    cases y with
    | d1 u => simp only [insT, List.map_cons, ih, tu, insI]
    | d2 u => simp only [insT, List.map_cons, ih, tu, insI]
    | s => simp only [insT, List.map_cons, hx]; rfl
    | k v => simp only [insT, List.map_cons, hx]; rfl
    | i1 v => simp only [insT, List.map_cons, hx]; rfl
    | i2 v => simp only [insT, List.map_cons, hx]; rfl
theorem tu_lin (l : List Tg) : (linT l).map tu = lin (l.map tu) := by
  induction l with
  | nil => rfl
  | cons x l ih =>
    cases x with
    | i1 t => exact (tu_ins _ t rfl _).trans (by rw [ih]; rfl)
    | i2 t => exact (tu_ins _ t rfl _).trans (by rw [ih]; rfl)
    | s => simp only [linT, consT, List.map_cons, tu, lin, consN, ih]
    | k t => simp only [linT, consT, List.map_cons, tu, lin, consN, ih]
    | d1 t => simp only [linT, consT, List.map_cons, tu, lin, consN, ih]
    | d2 t => simp only [linT, consT, List.map_cons, tu, lin, consN, ih]
theorem sw_ins (x : Tg) (c : List Tg) : sw (insT x c) = insT (sw1 x) (sw c) := by
  induction c with
  | nil => rfl
  | cons y c ih =>
    cases y with
    | d1 u => simp only [insT, sw, List.map_cons, sw1] at ih ⊢; rw [ih]
    | d2 u => simp only [insT, sw, List.map_cons, sw1] at ih ⊢; rw [ih]
    | s => rfl
    | k t => rfl
    | i1 t => rfl
    | i2 t => rfl
theorem sw_lin (l : List Tg) : sw (linT l) = linT (sw l) := by
  induction l with
  | nil => rfl
  | cons x l ih =>
    cases x with
    | i1 t => exact (sw_ins _ _).trans (by rw [ih]; rfl)
    | i2 t => exact (sw_ins _ _).trans (by rw [ih]; rfl)
    | s => show sw (.s :: linT l) = .s :: linT (sw l); rw [← ih]; rfl
    | k t => show sw (.k t :: linT l) = .k t :: linT (sw l); rw [← ih]; rfl
    | d1 t => show sw (.d1 t :: linT l) = .d2 t :: linT (sw l); rw [← ih]; rfl
    | d2 t => show sw (.d2 t :: linT l) = .d1 t :: linT (sw l); rw [← ih]; rfl
theorem nb_sw (l : List Tg) : ∀ j i, ((j = 0 ∧ i = 0) ∨ (j = 1 ∧ i = 2) ∨ (j = 2 ∧ i = 1)) → nb j l = false → nb i (sw l) = false := by
  induction l with
  | nil => intro j i _ _; rfl
  | cons x l ih =>
    intro j i hji h
    obtain ⟨h1, h2⟩ := nb_cons h
    cases x with
    | s => exact nb_mk (Or.inr (Or.inl rfl)) (ih 0 0 (Or.inl ⟨rfl, rfl⟩) h2)
    | k t => exact nb_mk (Or.inr (Or.inl rfl)) (ih 0 0 (Or.inl ⟨rfl, rfl⟩) h2)
    | d1 t => exact nb_mk (by simp only [tag, sw1] at h1 ⊢; omega) (ih 1 2 (Or.inr (Or.inl ⟨rfl, rfl⟩)) h2)
    | i1 t => exact nb_mk (by simp only [tag, sw1] at h1 ⊢; omega) (ih 1 2 (Or.inr (Or.inl ⟨rfl, rfl⟩)) h2)
    | d2 t => exact nb_mk (by simp only [tag, sw1] at h1 ⊢; omega) (ih 2 1 (Or.inr (Or.inr ⟨rfl, rfl⟩)) h2)
    | i2 t => exact nb_mk (by simp only [tag, sw1] at h1 ⊢; omega) (ih 2 1 (Or.inr (Or.inr ⟨rfl, rfl⟩)) h2)
theorem sw_sw (l : List Tg) : sw (sw l) = l := by
  induction l with
  | nil => rfl
  | cons x l ih => cases x <;> (show _ :: sw (sw l) = _; rw [ih]; rfl)
theorem tu_sw (l : List Tg) : (sw l).map tu = l.map tu := by
  induction l with
  | nil => rfl
  | cons x l ih => cases x <;> (show _ :: (sw l).map tu = _; rw [ih]; rfl)

/-- without what is known -/
def unk : List Ut → List Ut
  | [] => []
  | .k _ :: l => .s :: unk l
  | x :: l => x :: unk l
theorem unk_app (a b : List Ut) : unk (a ++ b) = unk a ++ unk b := by
  induction a with
  | nil => rfl
  | cons x a ih => cases x <;> simp only [List.cons_append, unk, ih]
theorem unk_ins (t : Tx) (c : List Ut) : unk (insI t c) = insI t (unk c) := by
  induction c with
  | nil => rfl
  | cons y c ih => cases y <;> simp only [insI, unk, ih]
theorem unk_lin (l : List Ut) : unk (lin l) = lin (unk l) := by
  induction l with
  | nil => rfl
  | cons x l ih =>
    cases x with
    | i t => exact (unk_ins t _).trans (by rw [ih]; rfl)
    | s => simp only [lin, consN, unk, ih]
    | k t => simp only [lin, consN, unk, ih]
    | d t => simp only [lin, consN, unk, ih]
/-- what is told has the first's steps, but for what they know around -/
theorem unk_fs (n : Nat) (e : Bool) (p q : List Ut) (l : List Tg) (m : Bool) (hn : p.length + q.length < n) (h : ct e p q = some (l, m)) : m = false → ∃ k, unk (fs (sw l)) = unk p ++ List.replicate k Ut.s := by
  refine ct_ind (P := fun _ p _ l m => m = false → ∃ k, unk (fs (sw l)) = unk p ++ List.replicate k Ut.s) ?_ ?_ ?_ ?_ n e p q l m hn h
  · intro e _; exact ⟨0, rfl⟩
  · intro e t p q l m ih hm
    obtain ⟨k, hk⟩ := ih hm
    exact ⟨k, by show Ut.d t :: unk (fs (sw l)) = _; rw [hk]; rfl⟩
  · intro e t p q l m _ ih hm
    obtain ⟨k, hk⟩ := ih hm
    exact ⟨k, hk⟩
  · intro p q o b l m hp hq h3 ho ih hm
    rw [Bool.or_eq_false_iff] at hm
    obtain ⟨k, hk⟩ := ih hm.2
    rcases cbT_is ho with h | ⟨hx, hy, rfl⟩ | ⟨t, hx, hy, _, rfl⟩ | ⟨t, hx, hy, rfl⟩ | ⟨t, hx, hy, rfl⟩
    · rw [hm.1] at h; cases h
    · show ∃ k, Ut.s :: unk (fs (sw l)) = _
      rw [hk]
      cases p with
      | nil => exact ⟨k + 1, rfl⟩
      | cons x p => rw [hdU_cons] at hx; subst hx; exact ⟨k, rfl⟩
    · show ∃ k, Ut.s :: unk (fs (sw l)) = _
      rw [hk]
      cases p with
      | nil => exact ⟨k + 1, rfl⟩
      | cons x p => rw [hdU_cons] at hx; rcases hx with rfl | rfl <;> exact ⟨k, rfl⟩
    · show ∃ k, Ut.s :: unk (fs (sw l)) = _
      rw [hk]
      cases p with
      | nil => exact ⟨k + 1, rfl⟩
      | cons x p => rw [hdU_cons] at hx; rcases hx with rfl | rfl <;> exact ⟨k, rfl⟩
    · show ∃ k, Ut.i t :: unk (fs (sw l)) = _
      rw [hk]
      cases p with
      | nil => cases hx
      | cons x p => rw [hdU_cons] at hx; subst hx; exact ⟨k, rfl⟩
/-- and the second's -/
theorem unk_sn (n : Nat) (e : Bool) (p q : List Ut) (l : List Tg) (m : Bool) (hn : p.length + q.length < n) (h : ct e p q = some (l, m)) : m = false → ∃ k, unk (sn (sw l)) = unk q ++ List.replicate k Ut.s := by
  refine ct_ind (P := fun _ _ q l m => m = false → ∃ k, unk (sn (sw l)) = unk q ++ List.replicate k Ut.s) ?_ ?_ ?_ ?_ n e p q l m hn h
  · intro e _; exact ⟨0, rfl⟩
  · intro e t p q l m ih hm
    obtain ⟨k, hk⟩ := ih hm
    exact ⟨k, hk⟩
  · intro e t p q l m _ ih hm
    obtain ⟨k, hk⟩ := ih hm
    exact ⟨k, by show Ut.i t :: unk (sn (sw l)) = _; rw [hk]; rfl⟩
  · intro p q o b l m hp hq h3 ho ih hm
    rw [Bool.or_eq_false_iff] at hm
    obtain ⟨k, hk⟩ := ih hm.2
    rcases cbT_is ho with h | ⟨hx, hy, rfl⟩ | ⟨t, hx, hy, _, rfl⟩ | ⟨t, hx, hy, rfl⟩ | ⟨t, hx, hy, rfl⟩
    · rw [hm.1] at h; cases h
    · show ∃ k, Ut.s :: unk (sn (sw l)) = _
      rw [hk]
      cases q with
      | nil => exact ⟨k + 1, rfl⟩
      | cons y q => rw [hdU_cons] at hy; subst hy; exact ⟨k, rfl⟩
    · show ∃ k, Ut.s :: unk (sn (sw l)) = _
      rw [hk]
      cases q with
      | nil => exact ⟨k + 1, rfl⟩
      | cons y q => rw [hdU_cons] at hy; rcases hy with rfl | rfl <;> exact ⟨k, rfl⟩
    · show ∃ k, Ut.d t :: unk (sn (sw l)) = _
      rw [hk]
      cases q with
      | nil => cases hy
      | cons y q => rw [hdU_cons] at hy; subst hy; exact ⟨k, rfl⟩
    · show ∃ k, Ut.s :: unk (sn (sw l)) = _
      rw [hk]
      cases q with
      | nil => exact ⟨k + 1, rfl⟩
      | cons y q => rw [hdU_cons] at hy; rcases hy with rfl | rfl <;> exact ⟨k, rfl⟩

/-- the middle, of both, once more: nothing behind an open line -/
theorem mid_nx (n : Nat) (e : Bool) (p q : List Ut) (l : List Tg) (m : Bool) (hn : p.length + q.length < n) (h : ct e p q = some (l, m)) : m = false → nx (fs (sw l)) e = true ∧ ox (sn (sw l)) e = true := by
  refine ct_ind (P := fun e _ _ l m => m = false → nx (fs (sw l)) e = true ∧ ox (sn (sw l)) e = true) ?_ ?_ ?_ ?_ n e p q l m hn h
  · intro e _; exact ⟨rfl, rfl⟩
  · intro e t p q l m ih hm; exact ih hm
  · intro e t p q l m _ ih hm; exact ih hm
  · intro p q o b l m hp hq h3 ho ih hm
    rw [Bool.or_eq_false_iff] at hm
    obtain ⟨i1, i2⟩ := ih hm.2
    rcases cbT_is ho with h | ⟨hx, hy, rfl⟩ | ⟨t, hx, hy, hne, rfl⟩ | ⟨t, hx, hy, rfl⟩ | ⟨t, hx, hy, rfl⟩
    · rw [hm.1] at h; cases h
    · rw [hx, hy] at i1 i2; exact ⟨i1, i2⟩
    · have ho : (opU (hdU p) || opU (hdU q)) = !cl t := by
        rcases hx with hx | hx <;> rcases hy with hy | hy <;> rw [hx, hy] <;> simp [opU] at *
        exact (hne hx hy).elim
      rw [ho] at i1 i2; exact ⟨i1, i2⟩
    · have ho : (opU (hdU p) || opU (hdU q)) = !cl t := by
        rcases hx with hx | hx <;> rw [hx, hy] <;> simp [opU]
      rw [ho] at i1 i2; exact ⟨i1, i2⟩
    · have ho : (opU (hdU p) || opU (hdU q)) = !cl t := by
        rcases hy with hy | hy <;> rw [hx, hy] <;> simp [opU]
      rw [ho] at i1 i2; exact ⟨i1, i2⟩
/-- how many lines the middle has -/
theorem mid_len (n : Nat) (e : Bool) (p q : List Ut) (l : List Tg) (m : Bool) (hn : p.length + q.length < n) (h : ct e p q = some (l, m)) : m = false → su u4 (fs (sw l)) ≤ max (su u4 p) (su u3 q) ∧ su u3 (sn (sw l)) ≤ max (su u4 p) (su u3 q) := by
  refine ct_ind (P := fun _ p q l m => m = false → su u4 (fs (sw l)) ≤ max (su u4 p) (su u3 q) ∧ su u3 (sn (sw l)) ≤ max (su u4 p) (su u3 q)) ?_ ?_ ?_ ?_ n e p q l m hn h
  · intro e _; simp [sw, fs, sn, su]
  · intro e t p q l m ih hm
    have := ih hm
    show su u4 (Ut.d t :: fs (sw l)) ≤ _ ∧ su u3 (sn (sw l)) ≤ _
    simp only [su, u4]
    omega
  · intro e t p q l m _ ih hm
    have := ih hm
    show su u4 (fs (sw l)) ≤ _ ∧ su u3 (Ut.i t :: sn (sw l)) ≤ _
    simp only [su, u3]
    omega
  · intro p q o b l m hp hq h3 ho ih hm
    rw [Bool.or_eq_false_iff] at hm
    have i := ih hm.2
    have k4 : su u4 p = su u4 p.tail + (if p.isEmpty then 0 else 1) := by
      cases p with
      | nil => rfl
      | cons x p => cases x <;> first | (simp [isD] at hp; done) | (simp [su, u4]; omega)
    have k3 : su u3 q = su u3 q.tail + (if q.isEmpty then 0 else 1) := by
      cases q with
      | nil => rfl
      | cons x p => cases x <;> first | (simp [isI] at hq; done) | (simp [su, u3]; omega)
    have p0 : p = [] → su u4 p.tail = 0 := fun h => by rw [h]; rfl
    have q0 : q = [] → su u3 q.tail = 0 := fun h => by rw [h]; rfl
    have pp := su_pos u4 u_pos.2.1 p.tail
    have pq := su_pos u3 u_pos.1 q.tail
    have hone : su u4 (fs (sw (o ++ l))) = 1 + su u4 (fs (sw l)) ∧ su u3 (sn (sw (o ++ l))) = 1 + su u3 (sn (sw l)) := by
      rcases cbT_is ho with h | ⟨hx, hy, rfl⟩ | ⟨t, hx, hy, hne, rfl⟩ | ⟨t, hx, hy, rfl⟩ | ⟨t, hx, hy, rfl⟩
      · rw [hm.1] at h; cases h
      all_goals exact ⟨rfl, rfl⟩
    rw [hone.1, hone.2, k4, k3]
    cases p with
    | nil =>
      cases q with
      | nil => cases h3
      | cons y q => simp only [List.isEmpty_nil, List.isEmpty_cons, if_true, Bool.false_eq_true, if_false] at *; simp only [List.tail_nil, List.tail_cons, su] at *; omega
    | cons x p =>
      cases q with
      | nil => simp only [List.isEmpty_nil, List.isEmpty_cons, if_true, Bool.false_eq_true, if_false] at *; simp only [List.tail_nil, List.tail_cons, su] at *; omega
      | cons y q => simp only [List.isEmpty_cons, Bool.false_eq_true, if_false] at *; simp only [List.tail_cons] at *; omega
/-- the old side of the one and the new side of the other are as told -/
theorem fs_old (l : List Tg) : ∀ e, ox (fs (sw l)) e = ox (l.map tu) e ∧ ox (fs l) e = ox (l.map tu) e := by
  induction l with
  | nil => intro e; exact ⟨rfl, rfl⟩
  | cons x l ih =>
    intro e
    have h1 := fun e => (ih e).1
    have h2 := fun e => (ih e).2
    cases x <;> (simp only [sw, List.map_cons, sw1, tu] at h1 h2 ⊢; simp only [fs, ox, opU, h1, h2]; exact ⟨trivial, trivial⟩)
theorem sn_new (l : List Tg) : ∀ e, nx (sn (sw l)) e = nx (l.map tu) e ∧ nx (sn l) e = nx (l.map tu) e := by
  induction l with
  | nil => intro e; exact ⟨rfl, rfl⟩
  | cons x l ih =>
    intro e
    have h1 := fun e => (ih e).1
    have h2 := fun e => (ih e).2
    cases x <;> (simp only [sw, List.map_cons, sw1, tu] at h1 h2 ⊢; simp only [sn, nx, opU, h1, h2]; exact ⟨trivial, trivial⟩)
theorem fs_cnt (l : List Tg) : su u3 (fs (sw l)) = su u3 (l.map tu) ∧ su u4 (sn (sw l)) = su u4 (l.map tu) := by
  induction l with
  | nil => exact ⟨rfl, rfl⟩
  | cons x l ih =>
    obtain ⟨h1, h2⟩ := ih
    cases x <;> refine ⟨?_, ?_⟩ <;> simp only [sw, List.map_cons, sw1, tu, fs, sn, su, u3, u4] at h1 h2 ⊢ <;> omega

end Go.Proofs.Ytcjjboomljbmbaa.Ol

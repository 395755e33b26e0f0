
/-
  Plain laws of tidied steps: they do the same to just the same lines, are right, have no more changes, and tidied again are the same; that steps are idle just if lines stay as they are, where each line that is not known is unlike all others; no condition but those that each states.
-/
import Derived.Test.YtcdjemheokmglabHTidy
import Derived.Test.YtcdjemheokmglabWPlain
import Derived.Test.YtcdjemheokmglabOFacts
namespace Go.Proofs.Ytcdjemheokmglab.Ol
open Go.Proofs.Ytcdjemheokmglab.Ln

/-- both sides' lines since the last Skip, and whether they were one at each -/
def sg (s : List Tx × List Tx × Bool) (x : Ut) : List Tx × List Tx × Bool :=
  match x with
  | .s => ([], [], s.2.2 && (s.1 == s.2.1))
  | .k t => (s.1 ++ [t], s.2.1 ++ [t], s.2.2)
  | .d t => (s.1 ++ [t], s.2.1, s.2.2)
  | .i t => (s.1, s.2.1 ++ [t], s.2.2)
def sgl (l : List Ut) (s : List Tx × List Tx × Bool) : List Tx × List Tx × Bool := l.foldl sg s
/-- is it idle? -/
def idU (l : List Ut) : Bool := (sgl l ([], [], true)).2.2 && ((sgl l ([], [], true)).1 == (sgl l ([], [], true)).2.1)
theorem sgl_cons (x : Ut) (l : List Ut) (s : List Tx × List Tx × Bool) : sgl (x :: l) s = sgl l (sg s x) := rfl
theorem sgl_app (a b : List Ut) (s : List Tx × List Tx × Bool) : sgl (a ++ b) s = sgl b (sgl a s) := by simp [sgl, List.foldl_append]
theorem sgl_insI (t : Tx) (c : List Ut) : ∀ s, sgl (insI t c) s = sgl (.i t :: c) s := by
  induction c with
  | nil => intro s; rfl
  | cons x c ih =>
    intro s
    cases x with
    | d u => rw [insI_d, sgl_cons, ih, sgl_cons, sgl_cons, sgl_cons]; rfl
    | s => rfl
    | k u => rfl
    | i u => rfl
theorem sgl_lin (l : List Ut) : ∀ s, sgl (lin l) s = sgl l s := by
  induction l with
  | nil => intro s; rfl
  | cons x l ih =>
    intro s
    rw [lin]
    cases x with
    | i t => rw [show consN (.i t) (lin l) = insI t (lin l) from rfl, sgl_insI, sgl_cons, ih, sgl_cons]
    | s => rw [show consN .s (lin l) = .s :: lin l from rfl, sgl_cons, ih, sgl_cons]
    | k t => rw [show consN (.k t) (lin l) = .k t :: lin l from rfl, sgl_cons, ih, sgl_cons]
    | d t => rw [show consN (.d t) (lin l) = .d t :: lin l from rfl, sgl_cons, ih, sgl_cons]
theorem idU_lin {a b : List Ut} (h : lin a = lin b) : idU a = idU b := by
  unfold idU; rw [← sgl_lin a, h, sgl_lin b]
theorem su_insI (f : Ut → Int) (t : Tx) (c : List Ut) : su f (insI t c) = f (.i t) + su f c := by
  induction c with
  | nil => rfl
  | cons x c ih =>
    cases x with
    | d u => rw [insI_d, su, ih, su]; omega
    | s => rfl
    | k u => rfl
    | i u => rfl
theorem su_lin (f : Ut → Int) (l : List Ut) : su f (lin l) = su f l := by
  induction l with
  | nil => rfl
  | cons x l ih =>
    rw [lin]
    cases x with
    | i t => rw [show consN (.i t) (lin l) = insI t (lin l) from rfl, su_insI, ih, su]
    | s => rw [show consN .s (lin l) = .s :: lin l from rfl, su, ih, su]
    | k t => rw [show consN (.k t) (lin l) = .k t :: lin l from rfl, su, ih, su]
    | d t => rw [show consN (.d t) (lin l) = .d t :: lin l from rfl, su, ih, su]
/-- something, and its way back behind lines that went: both sides are one -/
theorem cu_back (n : Nat) : ∀ (p : List Ut) (ts X : List Tx), p.length + p.length + ts.length < n → ∃ r Y, cu p (ts.map Ut.i ++ fu p) = some r ∧ sgl r (X ++ ts, X, true) = (Y, Y, true) ∧ su u3 r = su u3 p := by
  induction n with
  | zero => intro p ts X h; omega
  | succ n ih =>
    intro p ts X h
    cases p with
    | nil =>
      rw [show fu [] = [] from rfl, List.append_nil, cu_nil_l]
      refine ⟨_, X ++ ts, rfl, ?_, ?_⟩
      · clear h
        have key : ∀ (ts A B : List Tx), sgl (ts.map Ut.i) (A, B, true) = (A, B ++ ts, true) := by
          intro ts
          induction ts with
          | nil => intro A B; simp [sgl]
          | cons t ts ih2 => intro A B; rw [List.map_cons, sgl_cons]; show sgl _ (A, B ++ [t], true) = _; rw [ih2]; simp
        exact key ts (X ++ ts) X
      · clear h
        induction ts with
        | nil => rfl
        | cons t ts ih2 => rw [List.map_cons]; show u3 (.i t) + su u3 (ts.map Ut.i) = 0; rw [ih2]; rfl
    | cons x p =>
      by_cases hd : isD (x :: p) = true
      · obtain ⟨t, rfl⟩ : ∃ t, x = .d t := by cases x <;> first | exact ⟨_, rfl⟩ | (simp [isD] at hd)
        obtain ⟨r, Y, h1, h2, h3⟩ := ih p (ts ++ [t]) X (by simp at h ⊢; omega)
        refine ⟨.d t :: r, Y, ?_, ?_, ?_⟩
        · rw [cu_d, show ts.map Ut.i ++ fu (.d t :: p) = (ts ++ [t]).map Ut.i ++ fu p by simp [fu, fu1], h1]; rfl
        · rw [sgl_cons, ← h2]; simp [sg]
        · rw [su, h3, su]
      · have hd : isD (x :: p) = false := by simpa using hd
        cases ts with
        | cons t ts =>
          obtain ⟨r, Y, h1, h2, h3⟩ := ih (x :: p) ts (X ++ [t]) (by simp at h ⊢; omega)
          refine ⟨.i t :: r, Y, ?_, ?_, ?_⟩
          · rw [List.map_cons, List.cons_append, cu_i _ _ _ hd, h1]; rfl
          · rw [sgl_cons, ← h2]; simp [sg]
          · rw [su, h3]; show 0 + _ = _; omega
        | nil =>
          cases x with
          | d t => simp [isD] at hd
          | s =>
            obtain ⟨r, Y, h1, h2, h3⟩ := ih p [] [] (by simp at h ⊢; omega)
            rw [List.map_nil, List.nil_append] at h1
            refine ⟨.s :: r, Y, ?_, ?_, ?_⟩
            · rw [List.map_nil, List.nil_append, show fu (.s :: p) = .s :: fu p from rfl, cu_c _ _ _ _ hd rfl, h1]; rfl
            · rw [sgl_cons, ← h2]; simp [sg]
            · rw [su, h3, su]
          | k t =>
            obtain ⟨r, Y, h1, h2, h3⟩ := ih p [] (X ++ [t]) (by simp at h ⊢; omega)
            rw [List.map_nil, List.nil_append] at h1
            refine ⟨.k t :: r, Y, ?_, ?_, ?_⟩
            · rw [List.map_nil, List.nil_append, show fu (.k t :: p) = .k t :: fu p from rfl, cu_c _ _ _ _ hd rfl, h1]; simp [cb]
            · rw [sgl_cons, ← h2]; simp [sg]
            · rw [su, h3, su]
          | i t =>
            obtain ⟨r, Y, h1, h2, h3⟩ := ih p [] X (by simp at h ⊢; omega)
            rw [List.map_nil, List.nil_append] at h1
            refine ⟨r, Y, ?_, h2, ?_⟩
            · rw [List.map_nil, List.nil_append, show fu (.i t :: p) = .d t :: fu p from rfl, cu_c _ _ _ _ hd rfl, h1]; simp [cb]
            · rw [h3, su]; show _ = 0 + _; omega
/-- no change between two rows just if they are one -/
theorem df_idle (a b : List Tx) : chs (df a b) = 0 ↔ a = b := by
  constructor
  · intro h
    have h2 := (df_len a b).2
    have l := lc_le a b
    obtain ⟨s, ha, hb, e⟩ := lc_some a b
    have e1 : s = a := ha.eq_of_length (by omega)
    have e2 : s = b := hb.eq_of_length (by omega)
    rw [← e1, ← e2]
  · rintro rfl
    have h2 := (df_len a a).2
    rw [lc_self] at h2
    omega
theorem sg_rep (n : Nat) (s : List Tx × List Tx × Bool) : sgl (List.replicate (n + 1) Ut.s) s = ([], [], s.2.2 && (s.1 == s.2.1)) := by
  induction n generalizing s with
  | zero => rfl
  | succ n ih => rw [List.replicate_succ, sgl_cons, ih]; simp [sg]
/-- what the tidying has so far, told of the units -/
theorem tso_sg (l : List Oq) : (∀ x ∈ l, al0 x) → (sgl (ex l) ([], [], true)).1 = (tso l).2.1 ∧ (sgl (ex l) ([], [], true)).2.1 = (tso l).2.2 ∧ ((sgl (ex l) ([], [], true)).2.2 = true ↔ chs (tso l).1 = 0) := by
  refine snoc_ind (P := fun l => (∀ x ∈ l, al0 x) → (sgl (ex l) ([], [], true)).1 = (tso l).2.1 ∧ (sgl (ex l) ([], [], true)).2.1 = (tso l).2.2 ∧ ((sgl (ex l) ([], [], true)).2.2 = true ↔ chs (tso l).1 = 0)) ?_ ?_ l
  · intro _; exact ⟨rfl, rfl, by simp [sgl, ex, tso, chs]⟩
  · intro l x ih h
    obtain ⟨h1, h2, h3⟩ := ih (fun y hy => h y (by simp [hy]))
    have hx := h x (by simp)
    rw [ex_app, sgl_app, ex_one, tso_snoc]
    generalize sgl (ex l) ([], [], true) = s at h1 h2 h3
    obtain ⟨A, B, ok⟩ := s
    simp only at h1 h2 h3
    subst h1 h2
    obtain ⟨x1, x2, x3⟩ := x
    simp only [al0] at hx
    unfold ts
    by_cases e1 : x1 = 1
    · subst e1
      have hp : 1 ≤ x2 := by rcases hx with ⟨_, e, _⟩ | ⟨e, _⟩ <;> omega
      obtain ⟨n, hn⟩ : ∃ n : Nat, x2.toNat = n + 1 := ⟨x2.toNat - 1, by omega⟩
      rw [ex1_s, hn, sg_rep]
      refine ⟨rfl, rfl, ?_⟩
      simp only [if_true]
      rw [chs_app, chs_app, Bool.and_eq_true, h3, beq_iff_eq, ← df_idle]
      have : chs [((1, x2, x3) : Oq)] = 0 := by simp [chs, chg]
      omega
    · have hk : x1 = 2 ∨ x1 = 3 ∨ x1 = 4 := by omega
      rcases hk with rfl | rfl | rfl
      · rw [ex1_k]; exact ⟨by simp [sgl, sg], by simp [sgl, sg], by simpa [sgl, sg] using h3⟩
      · rw [ex1_d]; exact ⟨by simp [sgl, sg], by simp [sgl, sg], by simpa [sgl, sg] using h3⟩
      · rw [ex1_i]; exact ⟨by simp [sgl, sg], by simp [sgl, sg], by simpa [sgl, sg] using h3⟩
/-- steps are idle just if both sides of each stretch are one -/
theorem idle_iff {l : List Oq} (h : right l = true) : chs (tdy l) = 0 ↔ idU (ex l) = true := by
  have hal := right_al0 h
  have hk := (kept (td l) (td_al l hal)).ch
  obtain ⟨h1, h2, h3⟩ := tso_sg l hal
  have e : chs (tdy l) = chs (td l) := by unfold tdy; rw [if_pos h]; exact hk
  rw [e]
  unfold idU td
  rw [chs_app, h1, h2, Bool.and_eq_true, h3, beq_iff_eq, ← df_idle]
  omega
def fillQ (_j : Nat) : Tx := [63, 10]
/-- something and its way back leave all that is known as it is -/
theorem thn_back {p : List Oq} (h : right p = true) : ∃ c, thn p (flN p) = some c ∧ chs (tdy c) = 0 ∧ tot 3 c = tot 3 p ∧ tot 4 c = tot 3 p := by
  have hq : ∀ j, rt (fillQ j) = true ∧ cl (fillQ j) = true := fun _ => ⟨rfl, rfl⟩
  have hd := doo_wit hq h
  have hp := right_parts h
  have hl : (wit fillQ p).length ≤ 2147483648 := by
    have := (wso_len fillQ p (right_al0 h)).1
    unfold wit; omega
  obtain ⟨c, hc, _⟩ := thn_does hd (doo_flN hd) hl hl
  refine ⟨c, hc, ?_⟩
  have hct := thn_counts hc
  obtain ⟨f3, f4, _, _⟩ := flN_facts h
  obtain ⟨_, _, rc, _, r, _, _, hal, hce, hlin⟩ := thn_some hc
  have hu := ce_cu _ _ _ _ _ (Nat.lt_succ_self _) hce
  obtain ⟨r0, Y, e1, e2, e3⟩ := cu_back _ (ex p) [] [] (Nat.lt_succ_self _)
  rw [List.map_nil, List.nil_append] at e1
  have hE : Eqv (cu (ex p) (ex (flN p))) (cu (ex p) (fu (ex p))) := cu_eqv rfl (lin_flN h)
  rw [hu, e1] at hE
  have hE := Eqv.some_iff.1 hE
  have h1 : idU (ex c) = true := by
    rw [idU_lin (hlin.trans hE)]
    unfold idU
    rw [List.nil_append] at e2
    rw [e2]
    simp
  have h3 : tot 3 c = tot 3 p := by
    rw [← (su_facts c (right_al0 rc)).1, ← (su_facts p (right_al0 h)).1, ← su_lin, hlin.trans hE, su_lin, e3]
  exact ⟨(idle_iff rc).2 h1, h3, by omega⟩

end Go.Proofs.Ytcdjemheokmglab.Ol

namespace Go.Proofs.Ytcdjemheokmglab.Ol
open Go.Proofs.Ytcdjemheokmglab.Ln

/-- steps without a Skip, done: the lines of one side stand there, and those of the other one come -/
def sr (old : List Tx) (s : Option (List Tx × Nat)) (A B : List Tx) : Option (List Tx × Nat) := s.bind fun s => if A.isPrefixOf (old.drop s.2) = true then some (s.1 ++ B, s.2 + A.length) else none
theorem sr_nil (old : List Tx) (s : Option (List Tx × Nat)) : sr old s [] [] = s := by
  cases s with
  | none => rfl
  | some s => simp [sr]
theorem pre_snoc (old : List Tx) (p : Nat) (A : List Tx) (t : Tx) : (A ++ [t]).isPrefixOf (old.drop p) = (A.isPrefixOf (old.drop p) && decide (old[p + A.length]? = some t)) := by
  rw [Bool.eq_iff_iff, Bool.and_eq_true, decide_eq_true_iff, List.isPrefixOf_iff_prefix, List.isPrefixOf_iff_prefix]
  constructor
  · rintro ⟨r, hr⟩
    refine ⟨⟨[t] ++ r, by rw [← List.append_assoc]; exact hr⟩, ?_⟩
    have : (old.drop p)[A.length]? = some t := by rw [← hr, List.append_assoc, List.getElem?_append_right (Nat.le_refl _), Nat.sub_self]; rfl
    rwa [List.getElem?_drop] at this
  · rintro ⟨⟨r, hr⟩, h⟩
    have h2 : (old.drop p)[A.length]? = some t := by rw [List.getElem?_drop]; exact h
    rw [← hr, List.getElem?_append_right (Nat.le_refl _), Nat.sub_self] at h2
    cases r with
    | nil => cases h2
    | cons u r => simp at h2; subst h2; exact ⟨r, by rw [← hr]; simp⟩
theorem sr_step (old : List Tx) (s : Option (List Tx × Nat)) (A B : List Tx) (x : Oq) (h : x.1 = 2 ∨ x.1 = 3 ∨ x.1 = 4) : ds old (sr old s A B) x = sr old s (if x.1 = 4 then A else A ++ [x.2.2]) (if x.1 = 3 then B else B ++ [x.2.2]) := by
  obtain ⟨k, n, t⟩ := x
  simp only at h ⊢
  cases s with
  | none => rfl
  | some s =>
    obtain ⟨out, p⟩ := s
    simp only [sr, Option.bind_some]
    rcases h with rfl | rfl | rfl
    · simp only [show ¬ (2 : Int) = 4 by decide, show ¬ (2 : Int) = 3 by decide, if_false]
      rw [pre_snoc]
      cases hp : A.isPrefixOf (old.drop p) with
      | false => simp [ds]
      | true =>
        simp only [if_true, Bool.true_and]
        by_cases ho : old[p + A.length]? = some t
        · rw [ds_keep ho, decide_eq_true ho]; simp; omega
        · rw [ds_no (by decide) (by decide) ho, decide_eq_false ho]; simp
    · simp only [show ¬ (3 : Int) = 4 by decide, if_true, if_false]
      rw [pre_snoc]
      cases hp : A.isPrefixOf (old.drop p) with
      | false => simp [ds]
      | true =>
        simp only [if_true, Bool.true_and]
        by_cases ho : old[p + A.length]? = some t
        · rw [ds_del ho, decide_eq_true ho]; simp; omega
        · rw [ds_no (by decide) (by decide) ho, decide_eq_false ho]; simp
    · simp only [show ¬ (4 : Int) = 3 by decide, if_true, if_false]
      cases hp : A.isPrefixOf (old.drop p) with
      | false => simp [ds]
      | true => simp only [if_true]; rw [ds_ins]; simp
theorem sr_fold (old : List Tx) (s : Option (List Tx × Nat)) (c : List Oq) : (∀ x ∈ c, x.1 = 2 ∨ x.1 = 3 ∨ x.1 = 4) → c.foldl (ds old) s = sr old s (sdt 4 c) (sdt 3 c) := by
  refine snoc_ind (P := fun c => (∀ x ∈ c, x.1 = 2 ∨ x.1 = 3 ∨ x.1 = 4) → c.foldl (ds old) s = sr old s (sdt 4 c) (sdt 3 c)) (fun _ => (sr_nil old s).symm) ?_ c
  intro c x ih h
  rw [List.foldl_append, ih (fun y hy => h y (by simp [hy])), List.foldl_cons, List.foldl_nil, sr_step old s _ _ x (h x (by simp)), sdt_app, sdt_app, sdt_cons, sdt_cons]
  by_cases h4 : x.1 = 4
  · have h3 : ¬ x.1 = 3 := by omega
    simp [h4, sdt]
  · by_cases h3 : x.1 = 3
    · simp [h3, sdt]
    · simp [h3, h4, sdt]
theorem df_fold (old : List Tx) (s : Option (List Tx × Nat)) (A B : List Tx) : (df A B).foldl (ds old) s = sr old s A B := by
  rw [sr_fold old s _ (fun x hx => by
    have := (df_kinds A B x hx).1
    rcases this with ⟨h, _⟩ | ⟨h, _⟩ | ⟨h, _⟩
    · exact Or.inl h
    · exact Or.inr (Or.inl h)
    · exact Or.inr (Or.inr h)), (df_leads A B).1, (df_leads A B).2.1]
theorem dsl_tso (old : List Tx) (l : List Oq) : (∀ x ∈ l, al0 x) → dsl old l = sr old (dsl old (tso l).1) (tso l).2.1 (tso l).2.2 := by
  refine snoc_ind (P := fun l => (∀ x ∈ l, al0 x) → dsl old l = sr old (dsl old (tso l).1) (tso l).2.1 (tso l).2.2) (fun _ => rfl) ?_ l
  intro l x ih h
  have ih' := ih (fun y hy => h y (by simp [hy]))
  have hx := h x (by simp)
  rw [dsl_snoc, ih', tso_snoc]
  unfold ts
  by_cases e1 : x.1 = 1
  · rw [if_pos e1]
    simp only
    rw [sr_nil, dsl_snoc, dsl_app, df_fold]
  · rw [if_neg e1]
    exact sr_step old _ _ _ x (by rcases hx with ⟨e, _⟩ | ⟨e, _⟩; exact absurd e e1; exact e)
/-- they do the same to just the same lines -/
theorem dsl_td (old : List Tx) (l : List Oq) (h : ∀ x ∈ l, al0 x) : dsl old (td l) = dsl old l := by
  rw [dsl_tso old l h]
  unfold td
  rw [dsl_app, df_fold]
theorem right_tdy {l : List Oq} (h : right l = true) : right (tdy l) = true := by
  have hal := right_al0 h
  have hq : ∀ j, rt (fillQ j) = true ∧ cl (fillQ j) = true := fun _ => ⟨rfl, rfl⟩
  obtain ⟨_, hw, out, p, hd, ha, hwa, n⟩ := doo_some (doo_wit hq h)
  have hlen := wso_len fillQ l hal
  have hp := right_parts h
  unfold tdy
  rw [if_pos h]
  refine right_of_dsl (td_al l hal) hw (by rw [dsl_td _ l hal]; exact hd) (by rw [← ha]; exact hwa) ?_ ?_
  · unfold wit; omega
  · rw [← ha]; omega
theorem doo_tdy {l : List Oq} (h : right l = true) (old : List Tx) : doo (tdy l) old = doo l old := by
  have hal := right_al0 h
  have hr := right_tdy h
  have e : dsl old (tdy l) = dsl old l := by
    unfold tdy
    rw [if_pos h, ← dsl_td old l hal]
    exact dsl_nfo old (td l) (td_al l hal)
  unfold doo
  rw [hr, h, e]
theorem chs_snoc (l : List Oq) (x : Oq) : chs (l ++ [x]) = chs l + (if x.1 = 3 ∨ x.1 = 4 then 1 else 0) := by
  rw [chs_app]
  congr 1
  unfold chs chg
  by_cases h3 : x.1 = 3
  · simp [h3]
  · by_cases h4 : x.1 = 4
    · simp [h4]
    · have e3 : (x.1 == 3) = false := by simpa using h3
      have e4 : (x.1 == 4) = false := by simpa using h4
      simp [h3, h4]
/-- no more changes -/
theorem chs_td (l : List Oq) (h : ∀ x ∈ l, al0 x) : chs (td l) ≤ chs l := by
  have key : ∃ s : List Tx, s.Sublist (tso l).2.1 ∧ s.Sublist (tso l).2.2 ∧ chs (tso l).1 + (tso l).2.1.length + (tso l).2.2.length ≤ chs l + 2 * s.length := by
    refine snoc_ind (P := fun l => (∀ x ∈ l, al0 x) → ∃ s : List Tx, s.Sublist (tso l).2.1 ∧ s.Sublist (tso l).2.2 ∧ chs (tso l).1 + (tso l).2.1.length + (tso l).2.2.length ≤ chs l + 2 * s.length) (fun _ => ⟨[], List.Sublist.refl _, List.Sublist.refl _, by simp [tso, chs]⟩) ?_ l h
    intro l x ih h
    obtain ⟨s, s1, s2, s3⟩ := ih (fun y hy => h y (by simp [hy]))
    have hx := h x (by simp)
    rw [tso_snoc, chs_snoc]
    unfold ts
    by_cases e1 : x.1 = 1
    · rw [if_pos e1, if_neg (by omega)]
      refine ⟨[], List.Sublist.refl _, List.Sublist.refl _, ?_⟩
      simp only [List.length_nil]
      rw [chs_snoc, if_neg (by omega), chs_app]
      have := (df_len (tso l).2.1 (tso l).2.2).2
      have := lc_most _ _ s s1 s2
      have := lc_le (tso l).2.1 (tso l).2.2
      omega
    · rw [if_neg e1]
      have hk : x.1 = 2 ∨ x.1 = 3 ∨ x.1 = 4 := by rcases hx with ⟨e, _⟩ | ⟨e, _⟩; exact absurd e e1; exact e
      rcases hk with e | e | e
      · simp only [e, show ¬ (2 : Int) = 4 by decide, show ¬ (2 : Int) = 3 by decide, if_false]
        refine ⟨s ++ [x.2.2], s1.append (List.Sublist.refl _), s2.append (List.Sublist.refl _), ?_⟩
        simp; omega
      · simp only [e, show ¬ (3 : Int) = 4 by decide, if_true, if_false]
        refine ⟨s, s1.trans (List.sublist_append_left _ _), s2, ?_⟩
        simp; omega
      · simp only [e, show ¬ (4 : Int) = 3 by decide, if_true, if_false]
        refine ⟨s, s1, s2.trans (List.sublist_append_left _ _), ?_⟩
        simp; omega
  obtain ⟨s, s1, s2, s3⟩ := key
  unfold td
  rw [chs_app]
  have := (df_len (tso l).2.1 (tso l).2.2).2
  have := lc_most _ _ s s1 s2
  have := lc_le (tso l).2.1 (tso l).2.2
  omega
theorem chs_tdy {l : List Oq} (h : right l = true) : chs (tdy l) ≤ chs l := by
  have hal := right_al0 h
  unfold tdy
  rw [if_pos h]
  have e : chs (nrm (td l)) = chs (td l) := (kept (td l) (td_al l hal)).ch
  rw [e]
  exact chs_td l hal

/-- tidied, told of the units -/
def tu (s : List Ut × List Tx × List Tx) (x : Ut) : List Ut × List Tx × List Tx :=
  match x with
  | .s => (s.1 ++ ex (df s.2.1 s.2.2) ++ [.s], [], [])
  | .k t => (s.1, s.2.1 ++ [t], s.2.2 ++ [t])
  | .d t => (s.1, s.2.1 ++ [t], s.2.2)
  | .i t => (s.1, s.2.1, s.2.2 ++ [t])
def tul (l : List Ut) (s : List Ut × List Tx × List Tx) : List Ut × List Tx × List Tx := l.foldl tu s
def tdU (l : List Ut) : List Ut := (tul l ([], [], [])).1 ++ ex (df (tul l ([], [], [])).2.1 (tul l ([], [], [])).2.2)
theorem tul_cons (x : Ut) (l : List Ut) (s : List Ut × List Tx × List Tx) : tul (x :: l) s = tul l (tu s x) := rfl
theorem tul_app (a b : List Ut) (s : List Ut × List Tx × List Tx) : tul (a ++ b) s = tul b (tul a s) := by simp [tul, List.foldl_append]
theorem tul_insI (t : Tx) (c : List Ut) : ∀ s, tul (insI t c) s = tul (.i t :: c) s := by
  induction c with
  | nil => intro s; rfl
  | cons x c ih =>
    intro s
    cases x with
    | d u => rw [insI_d, tul_cons, ih, tul_cons, tul_cons, tul_cons]; rfl
    | s => rfl
    | k u => rfl
    | i u => rfl
theorem tul_lin (l : List Ut) : ∀ s, tul (lin l) s = tul l s := by
  induction l with
  | nil => intro s; rfl
  | cons x l ih =>
    intro s
    rw [lin]
    cases x with
    | i t => rw [show consN (.i t) (lin l) = insI t (lin l) from rfl, tul_insI, tul_cons, ih, tul_cons]
    | s => rw [show consN .s (lin l) = .s :: lin l from rfl, tul_cons, ih, tul_cons]
    | k t => rw [show consN (.k t) (lin l) = .k t :: lin l from rfl, tul_cons, ih, tul_cons]
    | d t => rw [show consN (.d t) (lin l) = .d t :: lin l from rfl, tul_cons, ih, tul_cons]
theorem tdU_lin (l : List Ut) : tdU (lin l) = tdU l := by unfold tdU; rw [tul_lin]
/-- a stretch is gone through: both its sides -/
theorem tul_seg (c : List Oq) : (∀ x ∈ c, x.1 = 2 ∨ x.1 = 3 ∨ x.1 = 4) → ∀ s, tul (ex c) s = (s.1, s.2.1 ++ sdt 4 c, s.2.2 ++ sdt 3 c) := by
  refine snoc_ind (P := fun c => (∀ x ∈ c, x.1 = 2 ∨ x.1 = 3 ∨ x.1 = 4) → ∀ s, tul (ex c) s = (s.1, s.2.1 ++ sdt 4 c, s.2.2 ++ sdt 3 c)) (fun _ s => by simp [ex, tul, sdt]) ?_ c
  intro c x ih h s
  rw [ex_app, tul_app, ih (fun y hy => h y (by simp [hy])), ex_one, sdt_app, sdt_app, sdt_cons, sdt_cons]
  obtain ⟨k, n, t⟩ := x
  have hk := h (k, n, t) (by simp)
  simp only at hk
  rcases hk with rfl | rfl | rfl
  · rw [ex1_k]; simp [tul, tu, sdt]
  · rw [ex1_d]; simp [tul, tu, sdt]
  · rw [ex1_i]; simp [tul, tu, sdt]
theorem tul_df (A B : List Tx) (o : List Ut) : tul (ex (df A B)) (o, [], []) = (o, A, B) := by
  rw [tul_seg _ (fun x hx => by
    have := (df_kinds A B x hx).1
    rcases this with ⟨h, _⟩ | ⟨h, _⟩ | ⟨h, _⟩
    · exact Or.inl h
    · exact Or.inr (Or.inl h)
    · exact Or.inr (Or.inr h)), (df_leads A B).1, (df_leads A B).2.1]
  simp
theorem tul_rep (n : Nat) (s : List Ut × List Tx × List Tx) : tul (List.replicate (n + 1) Ut.s) s = (s.1 ++ ex (df s.2.1 s.2.2) ++ List.replicate (n + 1) Ut.s, [], []) := by
  induction n generalizing s with
  | zero => rfl
  | succ n ih =>
    rw [List.replicate_succ, tul_cons, ih]
    simp [tu, df_nil, ex, List.replicate_succ]
theorem tul_tso (l : List Oq) : (∀ x ∈ l, al0 x) → tul (ex l) ([], [], []) = (ex (tso l).1, (tso l).2.1, (tso l).2.2) := by
  refine snoc_ind (P := fun l => (∀ x ∈ l, al0 x) → tul (ex l) ([], [], []) = (ex (tso l).1, (tso l).2.1, (tso l).2.2)) (fun _ => rfl) ?_ l
  intro l x ih h
  have ih' := ih (fun y hy => h y (by simp [hy]))
  have hx := h x (by simp)
  rw [ex_app, tul_app, ih', ex_one, tso_snoc]
  obtain ⟨k, n, t⟩ := x
  simp only [al0] at hx
  unfold ts
  by_cases e1 : k = 1
  · subst e1
    have hp : 1 ≤ n := by rcases hx with ⟨_, e, _⟩ | ⟨e, _⟩ <;> omega
    obtain ⟨m, hm⟩ : ∃ m : Nat, n.toNat = m + 1 := ⟨n.toNat - 1, by omega⟩
    rw [ex1_s, hm, tul_rep]
    simp only [if_true]
    rw [ex_app, ex_app, ex_one, ex1_s, hm]
  · have hk : k = 2 ∨ k = 3 ∨ k = 4 := by omega
    rcases hk with rfl | rfl | rfl
    · rw [ex1_k]; rfl
    · rw [ex1_d]; rfl
    · rw [ex1_i]; rfl
theorem ex_td (l : List Oq) (h : ∀ x ∈ l, al0 x) : ex (td l) = tdU (ex l) := by
  unfold td tdU
  rw [tul_tso l h, ex_app]
/-- tidied again, nothing is left to do -/
theorem tdU_tdU (l : List Ut) : tdU (tdU l) = tdU l := by
  have key : ∀ (l : List Ut) (o : List Ut) (A B : List Tx), tul o ([], [], []) = (o, [], []) → tul (tul l (o, A, B)).1 ([], [], []) = ((tul l (o, A, B)).1, [], []) := by
    intro l
    induction l with
    | nil => intro o A B h; exact h
    | cons x l ih =>
      intro o A B h
      rw [tul_cons]
      cases x with
      | s =>
        refine ih _ _ _ ?_
        rw [tul_app, tul_app, h, tul_df]
        rfl
      | k t => exact ih _ _ _ h
      | d t => exact ih _ _ _ h
      | i t => exact ih _ _ _ h
  have h := key l [] [] [] rfl
  show (tul (tdU l) ([], [], [])).1 ++ _ = _
  have e : tul (tdU l) ([], [], []) = ((tul l ([], [], [])).1, (tul l ([], [], [])).2.1, (tul l ([], [], [])).2.2) := by
    unfold tdU
    rw [tul_app, h, tul_df]
  rw [e]
  rfl
theorem tdy_tdy {l : List Oq} (h : right l = true) : tdy (tdy l) = tdy l := by
  have hal := right_al0 h
  have hr := right_tdy h
  have hal2 := td_al l hal
  have e0 : tdy l = nrm (td l) := by unfold tdy; rw [if_pos h]
  have haln : ∀ x ∈ nrm (td l), al0 x := by rw [← e0]; exact right_al0 hr
  have e1 : tdy (tdy l) = nrm (td (nrm (td l))) := by rw [e0]; unfold tdy; rw [if_pos (by rw [← e0]; exact hr)]
  rw [e1, e0]
  refine nrm_same (td_al _ haln) hal2 ?_
  rw [ex_td _ haln, ex_nrm _ hal2, tdU_lin, ex_td l hal, tdU_tdU]

/-- lines of both sides, told of the units, from a place on -/
def ou (q : Nat → Tx) : Nat → List Ut → List Tx
  | _, [] => []
  | p, .s :: l => q p :: ou q (p + 1) l
  | p, .k t :: l => t :: ou q (p + 1) l
  | p, .d t :: l => t :: ou q (p + 1) l
  | p, .i _ :: l => ou q p l
def nu2 (q : Nat → Tx) : Nat → List Ut → List Tx
  | _, [] => []
  | p, .s :: l => q p :: nu2 q (p + 1) l
  | p, .k t :: l => t :: nu2 q (p + 1) l
  | p, .d _ :: l => nu2 q (p + 1) l
  | p, .i t :: l => t :: nu2 q p l
/-- a line that is known is unlike all that are not -/
def Unlike (q : Nat → Tx) (l : List Ut) : Prop := ∀ x ∈ l, ∀ t, (x = .k t ∨ x = .d t ∨ x = .i t) → ∀ j, q j ≠ t
theorem first_q {q : Nat → Tx} {A B : List Tx} {p : Nat} {r1 r2 : List Tx} (hA : ∀ t ∈ A, ∀ j, q j ≠ t) (hB : ∀ t ∈ B, ∀ j, q j ≠ t) : A ++ q p :: r1 = B ++ q p :: r2 ↔ A = B ∧ r1 = r2 := by
  induction A generalizing B with
  | nil =>
    cases B with
    | nil => simp
    | cons b B =>
      simp only [List.nil_append, List.cons_append, List.cons.injEq]
      constructor
      · rintro ⟨h, _⟩; exact absurd h (hB b (by simp) p)
      · rintro ⟨h, _⟩; cases h
  | cons a A ih =>
    cases B with
    | nil =>
      simp only [List.nil_append, List.cons_append, List.cons.injEq]
      constructor
      · rintro ⟨h, _⟩; exact absurd h.symm (hA a (by simp) p)
      · rintro ⟨h, _⟩; cases h
    | cons b B =>
      simp only [List.cons_append, List.cons.injEq]
      rw [ih (fun t ht => hA t (by simp [ht])) (fun t ht => hB t (by simp [ht]))]
      constructor
      · rintro ⟨h1, h2, h3⟩; exact ⟨⟨h1, h2⟩, h3⟩
      · rintro ⟨⟨h1, h2⟩, h3⟩; exact ⟨h1, h2, h3⟩
theorem sgl_bad (l : List Ut) : ∀ A B, (sgl l (A, B, false)).2.2 = false := by
  induction l with
  | nil => intro A B; rfl
  | cons x l ih =>
    intro A B
    rw [sgl_cons]
    cases x with
    | s => exact ih _ _
    | k t => exact ih _ _
    | d t => exact ih _ _
    | i t => exact ih _ _
/-- both sides are one just if the steps are idle -/
theorem same_iff (q : Nat → Tx) (l : List Ut) : ∀ (p : Nat) (A B : List Tx), Unlike q l → (∀ t ∈ A, ∀ j, q j ≠ t) → (∀ t ∈ B, ∀ j, q j ≠ t) → (A ++ ou q p l = B ++ nu2 q p l ↔ (sgl l (A, B, true)).2.2 = true ∧ (sgl l (A, B, true)).1 = (sgl l (A, B, true)).2.1) := by
  induction l with
  | nil => intro p A B _ _ _; simp [ou, nu2, sgl]
  | cons x l ih =>
    intro p A B hU hA hB
    have hU' : Unlike q l := fun y hy => hU y (by simp [hy])
    rw [sgl_cons]
    cases x with
    | s =>
      show A ++ q p :: ou q (p + 1) l = B ++ q p :: nu2 q (p + 1) l ↔ _
      rw [first_q hA hB]
      have ih0 := ih (p + 1) [] [] hU' (by simp) (by simp)
      rw [List.nil_append, List.nil_append] at ih0
      rw [ih0]
      show _ ↔ (sgl l ([], [], (true && (A == B)))).2.2 = true ∧ _
      by_cases hAB : A = B
      · subst hAB
        simp
        simp [sg]
      · have : (A == B) = false := by simpa using hAB
        constructor
        · rintro ⟨h, _⟩; exact absurd h hAB
        · rintro ⟨h, _⟩
          rw [this, Bool.and_false, sgl_bad] at h
          cases h
    | k t =>
      have ht := hU (.k t) (by simp) t (Or.inl rfl)
      have := ih (p + 1) (A ++ [t]) (B ++ [t]) hU' (fun u hu => by rcases List.mem_append.1 hu with h | h; exact hA u h; rw [List.mem_singleton] at h; rw [h]; exact ht) (fun u hu => by rcases List.mem_append.1 hu with h | h; exact hB u h; rw [List.mem_singleton] at h; rw [h]; exact ht)
      rw [List.append_assoc, List.append_assoc] at this
      exact this
    | d t =>
      have ht := hU (.d t) (by simp) t (Or.inr (Or.inl rfl))
      have := ih (p + 1) (A ++ [t]) B hU' (fun u hu => by rcases List.mem_append.1 hu with h | h; exact hA u h; rw [List.mem_singleton] at h; rw [h]; exact ht) hB
      rw [List.append_assoc] at this
      exact this
    | i t =>
      have ht := hU (.i t) (by simp) t (Or.inr (Or.inr rfl))
      have := ih p A (B ++ [t]) hU' hA (fun u hu => by rcases List.mem_append.1 hu with h | h; exact hB u h; rw [List.mem_singleton] at h; rw [h]; exact ht)
      rw [List.append_assoc] at this
      exact this
theorem ou_app (q : Nat → Tx) (a b : List Ut) : ∀ p, ou q p (a ++ b) = ou q p a ++ ou q (p + (ou q p a).length) b := by
  induction a with
  | nil => intro p; rfl
  | cons x a ih =>
    intro p
    cases x with
    | s => simp only [List.cons_append, ou, ih, List.length_cons]; rw [show p + 1 + (ou q (p + 1) a).length = p + ((ou q (p + 1) a).length + 1) by omega]
    | k t => simp only [List.cons_append, ou, ih, List.length_cons]; rw [show p + 1 + (ou q (p + 1) a).length = p + ((ou q (p + 1) a).length + 1) by omega]
    | d t => simp only [List.cons_append, ou, ih, List.length_cons]; rw [show p + 1 + (ou q (p + 1) a).length = p + ((ou q (p + 1) a).length + 1) by omega]
    | i t => simp only [List.cons_append, ou, ih]
theorem nu2_app (q : Nat → Tx) (a b : List Ut) : ∀ p, nu2 q p (a ++ b) = nu2 q p a ++ nu2 q (p + (ou q p a).length) b := by
  induction a with
  | nil => intro p; rfl
  | cons x a ih =>
    intro p
    cases x with
    | s => simp only [List.cons_append, nu2, ou, ih, List.length_cons]; rw [show p + 1 + (ou q (p + 1) a).length = p + ((ou q (p + 1) a).length + 1) by omega]
    | k t => simp only [List.cons_append, nu2, ou, ih, List.length_cons]; rw [show p + 1 + (ou q (p + 1) a).length = p + ((ou q (p + 1) a).length + 1) by omega]
    | d t => simp only [List.cons_append, nu2, ou, ih, List.length_cons]; rw [show p + 1 + (ou q (p + 1) a).length = p + ((ou q (p + 1) a).length + 1) by omega]
    | i t => simp only [List.cons_append, nu2, ou, ih]
theorem ou_rep (q : Nat → Tx) (n : Nat) : ∀ p, ou q p (List.replicate n Ut.s) = fillW q p n ∧ nu2 q p (List.replicate n Ut.s) = fillW q p n := by
  induction n with
  | zero => intro p; exact ⟨rfl, rfl⟩
  | succ n ih =>
    intro p
    have e : fillW q p (n + 1) = q p :: fillW q (p + 1) n := by
      unfold fillW
      rw [List.range_succ_eq_map, List.map_cons, List.map_map, Nat.add_zero]
      congr 1
      exact List.map_congr_left fun j _ => by simp only [Function.comp]; congr 1; omega
    rw [List.replicate_succ, e]
    simp only [ou, nu2, (ih (p + 1)).1, (ih (p + 1)).2]
    exact ⟨trivial, trivial⟩
theorem wso_ou (q : Nat → Tx) (l : List Oq) : (∀ x ∈ l, al0 x) → (wso q l).1 = ou q 0 (ex l) ∧ (wso q l).2 = nu2 q 0 (ex l) := by
  refine snoc_ind (P := fun l => (∀ x ∈ l, al0 x) → (wso q l).1 = ou q 0 (ex l) ∧ (wso q l).2 = nu2 q 0 (ex l)) (fun _ => ⟨rfl, rfl⟩) ?_ l
  intro l x ih h
  obtain ⟨h1, h2⟩ := ih (fun y hy => h y (by simp [hy]))
  have hx := h x (by simp)
  rw [wso_snoc, ex_app, ou_app, nu2_app, ← h1, ← h2, ex_one, Nat.zero_add]
  obtain ⟨k, n, t⟩ := x
  simp only [al0] at hx
  unfold wst
  by_cases e1 : k = 1
  · subst e1
    simp only [if_true]
    rw [ex1_s, (ou_rep q _ _).1, (ou_rep q _ _).2]
    exact ⟨rfl, rfl⟩
  · have hk : k = 2 ∨ k = 3 ∨ k = 4 := by omega
    rcases hk with rfl | rfl | rfl
    · rw [ex1_k]; exact ⟨rfl, rfl⟩
    · rw [ex1_d]; exact ⟨rfl, by simp [nu2]⟩
    · rw [ex1_i]; exact ⟨by simp [ou], rfl⟩
/-- steps are idle just if lines stay as they are, where each line that is not known is unlike all others -/
theorem idle_same {q : Nat → Tx} {l : List Oq} (h : right l = true) (hU : ∀ x ∈ l, x.1 ≠ 1 → ∀ j, q j ≠ x.2.2) : (wso q l).2 = (wso q l).1 ↔ chs (tdy l) = 0 := by
  have hal := right_al0 h
  obtain ⟨h1, h2⟩ := wso_ou q l hal
  have hU2 : Unlike q (ex l) := by
    clear h1 h2 h
    induction l with
    | nil => intro x hx; cases hx
    | cons y l ih =>
      have ihl := ih (fun z hz => hU z (by simp [hz])) (fun z hz => hal z (by simp [hz]))
      intro x hx t ht
      simp only [ex] at hx
      rcases List.mem_append.1 hx with hx | hx
      · obtain ⟨k, n, u⟩ := y
        unfold ex1 at hx
        simp only at hx
        split at hx
        · have := (List.mem_replicate.1 hx).2
          rw [this] at ht
          rcases ht with e | e | e <;> cases e
        · rename_i hk1
          have hq := hU (k, n, u) (by simp) hk1
          split at hx
          · rw [List.mem_singleton] at hx; rw [hx] at ht
            rcases ht with e | e | e <;> cases e
            exact hq
          · split at hx
            · rw [List.mem_singleton] at hx; rw [hx] at ht
              rcases ht with e | e | e <;> cases e
              exact hq
            · rw [List.mem_singleton] at hx; rw [hx] at ht
              rcases ht with e | e | e <;> cases e
              exact hq
      · exact ihl x hx t ht
  have hs := same_iff q (ex l) 0 [] [] hU2 (by simp) (by simp)
  rw [List.nil_append, List.nil_append] at hs
  rw [idle_iff h, h1, h2, eq_comm, hs]
  unfold idU
  rw [Bool.and_eq_true, beq_iff_eq]

end Go.Proofs.Ytcdjemheokmglab.Ol

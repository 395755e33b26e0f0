
/-
  Plain laws of two lists of steps, one behind the other: nothing, ahead or behind, turns nothing; how many lines and changes they have; no condition but those that each states.
-/
import Derived.Test.YtbmnflldjkcgnaaCThen
namespace Go.Proofs.Ytbmnflldjkcgnaa.Ol
open Go.Proofs.Ytbmnflldjkcgnaa.Ln

/-- behind steps whose new side has nothing behind an open line nothing stands in the way -/
theorem ce_right (l : List Oq) : Ok l → ∀ e, (l.foldl (rs 4) (some e)).isSome = true → ce e (ex l) [] = some (ex l) := by
  have hnone : ∀ l : List Oq, l.foldl (rs 4) none = none := by
    intro l
    induction l with
    | nil => rfl
    | cons x l ih => rw [List.foldl_cons]; unfold rs; split <;> exact ih
  induction l with
  | nil => intro _ e _; exact ce_nil e
  | cons x l ih =>
    intro hok e h
    have ih' := ih (fun y hy => hok y (by simp [hy]))
    have hx := (hok x (by simp)).1
    obtain ⟨k, n, t⟩ := x
    simp only [al0] at hx
    rw [List.foldl_cons] at h
    by_cases e3 : k = 3
    · subst e3
      have hr : rs 4 (some e) (3, n, t) = some e := by simp [rs, on]
      rw [hr] at h
      rw [ex, ex1_d, List.singleton_append, ce_d, ih' e h]; rfl
    · have hon : on 4 (k, n, t) = true := by
        simp only [on, Bool.or_eq_true, beq_iff_eq]; omega
      have he : e = false := by
        cases e with
        | false => rfl
        | true =>
          have hr : rs 4 (some true) (k, n, t) = none := by unfold rs; rw [if_pos hon, if_neg (by simp)]
          rw [hr, hnone] at h; cases h
      subst he
      have hr : rs 4 (some false) (k, n, t) = some (opn (k, n, t)) := by unfold rs; rw [if_pos hon, if_pos rfl]
      rw [hr] at h
      by_cases e1 : k = 1
      · subst e1
        obtain ⟨m, hm⟩ : ∃ m : Nat, n.toNat = m + 1 := ⟨(n - 1).toNat, by omega⟩
        have h0 : opn (1, n, t) = false := by simp [opn]
        rw [h0] at h
        rw [ex, ex1_s, hm, ce_repR, if_neg (by simp), ih' false h]; rfl
      · have hk : k = 2 ∨ k = 4 := by omega
        rcases hk with rfl | rfl
        · have h0 : opn (2, n, t) = !cl t := by simp [opn]
          rw [h0] at h
          rw [ex, ex1_k, List.singleton_append, ce_c false _ _ rfl rfl rfl, if_neg (by simp)]
          show ((ce (opU (.k t) || false) (ex l) []).map ([Ut.k t] ++ ·)) = _
          rw [Bool.or_false, show opU (.k t) = !cl t from rfl, ih' _ h]; rfl
        · have h0 : opn (4, n, t) = !cl t := by simp [opn]
          rw [h0] at h
          rw [ex, ex1_i, List.singleton_append, ce_c false _ _ rfl rfl rfl, if_neg (by simp)]
          show ((ce (opU (.i t) || false) (ex l) []).map ([Ut.i t] ++ ·)) = _
          rw [Bool.or_false, show opU (.i t) = !cl t from rfl, ih' _ h]; rfl
theorem flN_nil : flN [] = [] := rfl
/-- nothing behind turns nothing -/
theorem thn_nil {p : List Oq} (hp : right p = true) : thn p [] = some (nrm p) := by
  have op := right_ok hp
  have oq : Ok [] := fun x hx => by cases hx
  have c := wk_ce (p.length + ([] : List Oq).length + 1) false p [] op oq (Nat.lt_succ_self _)
  rw [show ex ([] : List Oq) = [] from rfl, ce_right p op false (right_parts hp).2.2.1] at c
  obtain ⟨r, hw, he⟩ := Option.map_eq_some_iff.1 c
  have ha := byO_al op oq hw
  have hn : nrm (byO r) = nrm p := nrm_same ha (right_al0 hp) (by rw [he])
  unfold thn
  rw [if_pos ⟨hp, rfl⟩, hw]
  simp only
  rw [hn, if_pos (right_nrm hp)]
/-- nothing ahead turns nothing -/
theorem nil_thn {p : List Oq} (hp : right p = true) : thn [] p = some (nrm p) := by
  have h := thn_flip (p := flN p) (q := []) (right_flN hp) rfl
  rw [flN_nil, flN_twice hp, thn_nil (right_flN hp)] at h
  have h2 : thn [] (nrm p) = some (nrm p) := by
    rw [h]
    have : nrm (flN p) = flN p := by unfold flN; rw [if_pos hp, nrm_nrm]
    simp only [Option.map_some]
    rw [this, flN_twice hp]
  -- in order or not is one
  have op := right_ok hp
  have on_ := right_ok (right_nrm hp)
  have c1 := wk_ce (([] : List Oq).length + p.length + 1) false [] p (fun x hx => by cases hx) op (Nat.lt_succ_self _)
  obtain ⟨_, _, _, _, r, hw, hl, hal, hc, _⟩ := thn_some h2
  have hE : Eqv (ce false (ex []) (ex p)) (ce false (ex []) (ex (nrm p))) := ce_eqv rfl (lin_nrm (right_al0 hp)).symm
  rw [hc] at hE
  obtain ⟨u, hu, hlu⟩ := hE.symm.out
  rw [hu] at c1
  obtain ⟨r1, hw1, he1⟩ := Option.map_eq_some_iff.1 c1
  have ha1 := byO_al (fun x hx => by cases hx) op hw1
  have hn : nrm (byO r1) = nrm p := by
    rw [nrm_same ha1 hal (by rw [he1, hlu]), ← hl]
  unfold thn
  rw [if_pos ⟨rfl, hp⟩, hw1]
  simp only
  rw [hn, if_pos (right_nrm hp)]

/-- counts of a row -/
def su (f : Ut → Int) : List Ut → Int
  | [] => 0
  | x :: l => f x + su f l
theorem su_app (f : Ut → Int) (a b : List Ut) : su f (a ++ b) = su f a + su f b := by
  induction a with
  | nil => simp [su]
  | cons x a ih => simp only [List.cons_append, su, ih]; omega
theorem su_rep (f : Ut → Int) (n : Nat) (h : f .s = 1) : su f (List.replicate n Ut.s) = n := by
  induction n with
  | zero => rfl
  | succ n ih => rw [List.replicate_succ, su, ih, h]; omega
theorem su_rep0 (f : Ut → Int) (n : Nat) (h : f .s = 0) : su f (List.replicate n Ut.s) = 0 := by
  induction n with
  | zero => rfl
  | succ n ih => rw [List.replicate_succ, su, ih, h]; omega
theorem su_pos (f : Ut → Int) (h : ∀ x, 0 ≤ f x) (l : List Ut) : 0 ≤ su f l := by
  induction l with
  | nil => exact Int.le_refl _
  | cons x l ih => have := h x; simp only [su]; omega
def u3 : Ut → Int
  | .i _ => 0
  | _ => 1
def u4 : Ut → Int
  | .d _ => 0
  | _ => 1
def uc : Ut → Int
  | .d _ => 1
  | .i _ => 1
  | _ => 0
theorem su_facts (l : List Oq) (h : ∀ x ∈ l, al0 x) : su u3 (ex l) = tot 3 l ∧ su u4 (ex l) = tot 4 l ∧ su uc (ex l) = chs l := by
  induction l with
  | nil => exact ⟨rfl, rfl, rfl⟩
  | cons x l ih =>
    have hx := h x (by simp)
    obtain ⟨i3, i4, ic⟩ := ih (fun y hy => h y (by simp [hy]))
    have ec : chs (x :: l) = chs [x] + chs l := chs_app [x] l
    rw [ex, su_app, su_app, su_app, i3, i4, ic, ec, tot, tot]
    obtain ⟨k, n, t⟩ := x
    simp only [al0] at hx
    rcases hx with ⟨rfl, h1, _⟩ | ⟨hk, _⟩
    · rw [ex1_s, su_rep u3 _ rfl, su_rep u4 _ rfl, su_rep0 uc _ rfl]
      simp only [ln, if_true, chs, List.filter_cons, chg]
      refine ⟨by omega, by omega, by simp⟩
    · rcases hk with rfl | rfl | rfl
      · rw [ex1_k]; simp [su, u3, u4, uc, ln, chs, chg]
      · rw [ex1_d]; simp [su, u3, u4, uc, ln, chs, chg]
      · rw [ex1_i]; simp [su, u3, u4, uc, ln, chs, chg]
theorem cb_counts {x y : Ut} {o : List Ut} (hx : isD [x] = false) (hy : isI [y] = false) (h : cb x y = some o) : u3 x ≤ su u3 o ∧ su u3 o ≤ u3 x + u3 y ∧ u4 y ≤ su u4 o ∧ su uc o ≤ uc x + uc y ∧ su u4 o - su u3 o = u4 x - u3 x + u4 y - u3 y := by
  cases x <;> cases y <;> simp [isD, isI] at hx hy <;> simp [cb] at h
  all_goals first
    | (subst h; simp [su, u3, u4, uc])
    | (obtain ⟨_, rfl⟩ := h; simp [su, u3, u4, uc])
theorem u_pos : (∀ x, 0 ≤ u3 x) ∧ (∀ x, 0 ≤ u4 x) ∧ ∀ x, 0 ≤ uc x := by
  refine ⟨fun x => ?_, fun x => ?_, fun x => ?_⟩ <;> cases x <;> simp [u3, u4, uc]
theorem cu_counts (n : Nat) : ∀ (p q a : List Ut), p.length + q.length < n → cu p q = some a → su u3 p ≤ su u3 a ∧ su u3 a ≤ su u3 p + su u3 q ∧ su u4 q ≤ su u4 a ∧ su uc a ≤ su uc p + su uc q ∧ su u4 a - su u3 a = su u4 p - su u3 p + su u4 q - su u3 q := by
  induction n with
  | zero => intro p q a hn; omega
  | succ n ih =>
    intro p q a hn h
    have q3 := su_pos u3 u_pos.1 q
    have p4 := su_pos u4 u_pos.2.1 p
    have p3 := su_pos u3 u_pos.1 p
    cases p with
    | nil => rw [cu_nil_l] at h; cases h; simp [su]; omega
    | cons x p =>
      cases hp : isD (x :: p) with
      | true =>
        obtain ⟨t, p', e⟩ := isD_is hp
        cases e
        rw [cu_d] at h
        obtain ⟨a', ha, rfl⟩ := map_of h
        have := ih p q a' (by simp at hn; omega) ha
        simp only [su, u3, u4, uc]; omega
      | false =>
        cases q with
        | nil => rw [cu_nil_r] at h; cases h; simp [su] at p3 p4 ⊢; omega
        | cons y q =>
          cases hq : isI (y :: q) with
          | true =>
            obtain ⟨t, q', e⟩ := isI_is hq
            cases e
            rw [cu_i t _ _ hp] at h
            obtain ⟨a', ha, rfl⟩ := map_of h
            have := ih (x :: p) q a' (by simp at hn ⊢; omega) ha
            simp only [su, u3, u4, uc] at this ⊢; omega
          | false =>
            rw [cu_c _ _ _ _ hp hq] at h
            obtain ⟨o, a', ho, ha, rfl⟩ := bind_of h
            rw [isD_hd] at hp
            rw [isI_hd] at hq
            have h1 := cb_counts hp hq ho
            have h2 := ih p q a' (by simp at hn ⊢; omega) ha
            rw [su_app, su_app, su_app]
            simp only [su]; omega
/-- how many lines and changes two have, one behind the other -/
theorem thn_counts {p q l : List Oq} (h : thn p q = some l) : tot 3 p ≤ tot 3 l ∧ tot 4 q ≤ tot 4 l ∧ chs l ≤ chs p + chs q ∧ tot 4 l - tot 3 l = tot 4 p - tot 3 p + tot 4 q - tot 3 q := by
  obtain ⟨rp, rq, rl, _, r, hw, hl, hal, hc, _⟩ := thn_some h
  have hu := ce_cu _ _ _ _ _ (Nat.lt_succ_self _) hc
  have hk := cu_counts _ _ _ _ (Nat.lt_succ_self _) hu
  obtain ⟨a1, a2, a3⟩ := su_facts p (right_al0 rp)
  obtain ⟨b1, b2, b3⟩ := su_facts q (right_al0 rq)
  obtain ⟨c1, c2, c3⟩ := su_facts (byO r) hal
  have kp := kept (byO r) hal
  have t3 : tot 3 l = tot 3 (byO r) := by rw [hl]; exact kp.t3
  have t4 : tot 4 l = tot 4 (byO r) := by rw [hl]; exact kp.t4
  have tc : chs l = chs (byO r) := by rw [hl]; exact kp.ch
  rw [a1, a2, a3, b1, b2, b3, c1, c2, c3] at hk
  rw [t3, t4, tc]
  omega
/-- how far what is told goes, ahead of what is asked of it -/
theorem byO_tot {p q : List Oq} {r : List (Oq × Int) × Bool} (hp : right p = true) (hq : right q = true) (hw : wk (p.length + q.length + 1) false p q = some r) : tot 3 (byO r) ≤ 4294967296 := by
  have op := right_ok hp
  have oq := right_ok hq
  have hal := byO_al op oq hw
  have hc := wk_ce (p.length + q.length + 1) false p q op oq (Nat.lt_succ_self _)
  rw [hw] at hc
  have hu := ce_cu _ _ _ _ _ (Nat.lt_succ_self _) hc.symm
  have hk := cu_counts _ _ _ _ (Nat.lt_succ_self _) hu
  rw [(su_facts p (right_al0 hp)).1, (su_facts q (right_al0 hq)).1, (su_facts (byO r) hal).1] at hk
  have h1 := (right_parts hp).2.2.2.1
  have h2 := (right_parts hq).2.2.2.1
  omega

end Go.Proofs.Ytbmnflldjkcgnaa.Ol


/-
  Plain laws of two lists of steps, one behind the other, as the document has it: what they are does to lines what both do; of three it is one which two are put together first; turned back they are the second turned back, and then the first; nothing, ahead or behind, turns nothing; how many lines and changes they have; no condition but those that each states.
-/
import Derived.Test.YtbmnflldjkcgnaaCDoes
namespace Go.Proofs.Ytbmnflldjkcgnaa.Ol
open Go.Proofs.Ytbmnflldjkcgnaa.Ln

/-- two lists of steps, one behind the other -/
def thn (p q : List Oq) : Option (List Oq) :=
  if right p = true ∧ right q = true then
    match wk (p.length + q.length + 1) false p q with
    | none => none
    | some r => if right (nrm (byO r)) = true then some (nrm (byO r)) else none
  else none

theorem wkO_al {x y : Oq} (hx : al0 x) (hy : al0 y) : ∀ z ∈ wkO x y (wkN x y), al0 z.1 := by
  unfold wkO wkN
  intro z hz
  split at hz
  · rename_i h
    simp only [List.mem_cons, List.not_mem_nil, or_false] at hz
    subst hz
    refine Or.inl ⟨rfl, ?_, rfl⟩
    show 1 ≤ min x.2.1 y.2.1
    have h1 : 1 ≤ x.2.1 := by rcases hx with ⟨_, h, _⟩ | ⟨h2, _⟩ <;> omega
    have h2 : 1 ≤ y.2.1 := by rcases hy with ⟨_, h, _⟩ | ⟨h2, _⟩ <;> omega
    omega
  · split at hz
    · cases hz
    · split at hz
      · simp only [List.mem_cons, List.not_mem_nil, or_false] at hz; subst hz; exact hx
      · split at hz
        · simp only [List.mem_cons, List.not_mem_nil, or_false] at hz; subst hz; exact hy
        · split at hz
          · simp only [List.mem_cons, List.not_mem_nil, or_false] at hz; subst hz; exact hy
          · simp only [List.mem_cons, List.not_mem_nil, or_false] at hz; subst hz; exact hx
theorem wkN_pos {x y : Oq} (hx : al0 x) (hy : al0 y) : 1 ≤ wkN x y := by
  unfold wkN
  split
  · have h1 : 1 ≤ x.2.1 := by rcases hx with ⟨_, h, _⟩ | ⟨h2, _⟩ <;> omega
    have h2 : 1 ≤ y.2.1 := by rcases hy with ⟨_, h, _⟩ | ⟨h2, _⟩ <;> omega
    omega
  · omega
theorem wk_al (f : Nat) : ∀ (e : Bool) (p q : List Oq) (r : List (Oq × Int) × Bool), Ok p → Ok q → wk f e p q = some r → ∀ z ∈ r.1, al0 z.1 := by
  induction f with
  | zero => intro e p q r _ _ h; cases h
  | succ f ih =>
    intro e p q r op oq h
    rw [wk] at h
    split at h
    · cases h; intro z hz; cases hz
    · split at h
      · obtain ⟨r', h1, rfl⟩ := Option.map_eq_some_iff.1 h
        intro z hz
        rcases List.mem_cons.1 hz with rfl | hz
        · exact op.hd.1
        · exact ih e _ _ r' op.tail oq h1 z hz
      · split at h
        · obtain ⟨r', h1, rfl⟩ := Option.map_eq_some_iff.1 h
          intro z hz
          rcases List.mem_cons.1 hz with rfl | hz
          · exact oq.hd.1
          · exact ih e _ _ r' op oq.tail h1 z hz
        · split at h
          · cases h
          · split at h
            · cases h
            · obtain ⟨r', h1, rfl⟩ := Option.map_eq_some_iff.1 h
              have hN := wkN_pos op.hd.1 oq.hd.1
              intro z hz
              rcases List.mem_append.1 hz with hz | hz
              · exact wkO_al op.hd.1 oq.hd.1 z hz
              · exact ih _ _ _ r' (op.onn _ hN) (oq.onn _ hN) h1 z hz
theorem byO_al {f : Nat} {e : Bool} {p q : List Oq} {r : List (Oq × Int) × Bool} (op : Ok p) (oq : Ok q) (h : wk f e p q = some r) : ∀ x ∈ byO r, al0 x := by
  intro x hx
  obtain ⟨z, hz, rfl⟩ := List.mem_map.1 hx
  exact wk_al f e p q r op oq h z hz

/-- when steps in order are right -/
theorem right_nrm_iff {l : List Oq} (h : ∀ x ∈ l, al0 x) : right (nrm l) = true ↔ (rsl 3 l).isSome = true ∧ (rsl 4 l).isSome = true ∧ tot 3 l ≤ 2147483648 ∧ tot 4 l ≤ 2147483648 := by
  have hk := kept l h
  constructor
  · intro hr
    obtain ⟨_, h2, h3, h4, h5⟩ := right_parts hr
    have e3 : rsl 3 (nrm l) = rsl 3 l := hk.r3
    have e4 : rsl 4 (nrm l) = rsl 4 l := hk.r4
    have t3 : tot 3 (nrm l) = tot 3 l := hk.t3
    have t4 : tot 4 (nrm l) = tot 4 l := hk.t4
    rw [e3] at h2; rw [e4] at h3; rw [t3] at h4; rw [t4] at h5
    exact ⟨h2, h3, h4, h5⟩
  · rintro ⟨h2, h3, h4, h5⟩
    unfold right
    simp only [Bool.and_eq_true, decide_eq_true_eq, List.all_eq_true]
    have e3 : rsl 3 (nrm l) = rsl 3 l := hk.r3
    have e4 : rsl 4 (nrm l) = rsl 4 l := hk.r4
    have t3 : tot 3 (nrm l) = tot 3 l := hk.t3
    have t4 : tot 4 (nrm l) = tot 4 l := hk.t4
    rw [e3, e4, t3, t4]
    refine ⟨⟨⟨⟨fun x hx => ?_, h2⟩, h3⟩, h4⟩, h5⟩
    have ha := nrm_al0 h x hx
    refine alone_of ha ?_
    rcases ha with ⟨e, e2, _⟩ | ⟨_, e, _⟩
    · have := tot_le 3 _ x hx
      rw [t3] at this
      simp only [ln, if_pos e] at this
      omega
    · omega
theorem right_nrm_flp {l : List Oq} (h : ∀ x ∈ l, al0 x) : right (nrm (flp l)) = right (nrm l) := by
  have h1 := right_nrm_iff h
  have h2 := right_nrm_iff (flp_al0 h)
  rw [(flp_rsl l).1, (flp_rsl l).2, (flp_tot l).1, (flp_tot l).2] at h2
  rw [Bool.eq_iff_iff, h1, h2]
  constructor
  · rintro ⟨a, b, c, d⟩; exact ⟨b, a, d, c⟩
  · rintro ⟨a, b, c, d⟩; exact ⟨b, a, d, c⟩

/-- what two are, laid out -/
theorem thn_some {p q l : List Oq} (h : thn p q = some l) : right p = true ∧ right q = true ∧ right l = true ∧ nrm l = l ∧ ∃ r, wk (p.length + q.length + 1) false p q = some r ∧ l = nrm (byO r) ∧ (∀ x ∈ byO r, al0 x) ∧ ce false (ex p) (ex q) = some (ex (byO r)) ∧ lin (ex l) = lin (ex (byO r)) := by
  unfold thn at h
  split at h
  · rename_i hr
    cases hw : wk (p.length + q.length + 1) false p q with
    | none => rw [hw] at h; cases h
    | some r =>
      rw [hw] at h
      simp only at h
      split at h
      · rename_i hrn
        cases h
        have ha := byO_al (right_ok hr.1) (right_ok hr.2) hw
        have hc := wk_ce (p.length + q.length + 1) false p q (right_ok hr.1) (right_ok hr.2) (Nat.lt_succ_self _)
        rw [hw] at hc
        exact ⟨hr.1, hr.2, hrn, nrm_nrm _, r, rfl, rfl, ha, hc.symm, lin_nrm ha⟩
      · cases h
  · cases h
/-- of three it is one which two are put together first -/
theorem thn_three {p q r a b x y : List Oq} (h1 : thn p q = some a) (h2 : thn q r = some b) (h3 : thn a r = some x) (h4 : thn p b = some y) : x = y := by
  obtain ⟨_, _, _, _, r1, _, _, _, c1, l1⟩ := thn_some h1
  obtain ⟨_, _, _, _, r2, _, _, _, c2, l2⟩ := thn_some h2
  obtain ⟨_, _, rx, nx, r3, _, ex3, al3, c3, l3⟩ := thn_some h3
  obtain ⟨_, _, ry, ny, r4, _, ex4, al4, c4, l4⟩ := thn_some h4
  have u1 := ce_cu _ _ _ _ _ (Nat.lt_succ_self _) c1
  have u2 := ce_cu _ _ _ _ _ (Nat.lt_succ_self _) c2
  have u3 := ce_cu _ _ _ _ _ (Nat.lt_succ_self _) c3
  have u4 := ce_cu _ _ _ _ _ (Nat.lt_succ_self _) c4
  rw [ex3, ex4]
  exact nrm_same al3 al4 (cu_three u1 l1 u3 u2 l2 u4)

theorem ex_flp (l : List Oq) (h : ∀ x ∈ l, al0 x) : ex (flp l) = fu (ex l) := by
  induction l with
  | nil => rfl
  | cons x l ih =>
    have hx := h x (by simp)
    have ih' := ih (fun y hy => h y (by simp [hy]))
    obtain ⟨k, n, t⟩ := x
    simp only [al0] at hx
    show ex (fl (k, n, t) :: flp l) = _
    rw [ex, ex, ih']
    unfold fu
    rw [List.map_append]
    congr 1
    rcases hx with ⟨rfl, _⟩ | ⟨hk, _⟩
    · rw [fl_stay (x := (1, n, t)) (by show (1 : Int) ≠ 3; decide) (by show (1 : Int) ≠ 4; decide), ex1_s]; simp [fu1]
    · rcases hk with rfl | rfl | rfl
      · rw [fl_stay (x := (2, n, t)) (by show (2 : Int) ≠ 3; decide) (by show (2 : Int) ≠ 4; decide), ex1_k]; rfl
      · rw [fl3, ex1_i, ex1_d]; rfl
      · rw [fl4, ex1_i, ex1_d]; rfl
theorem lin_flN {l : List Oq} (h : right l = true) : lin (ex (flN l)) = lin (fu (ex l)) := by
  unfold flN
  rw [if_pos h, lin_nrm (flp_al0 (right_al0 h)), ex_flp l (right_al0 h)]
/-- turned back they are the second turned back, and then the first -/
theorem thn_flip {p q : List Oq} (hp : right p = true) (hq : right q = true) : thn (flN q) (flN p) = (thn p q).map flN := by
  have op := right_ok hp
  have oq := right_ok hq
  have rp := right_flN hp
  have rq := right_flN hq
  have fp := right_ok rp
  have fq := right_ok rq
  have c1 := wk_ce (p.length + q.length + 1) false p q op oq (Nat.lt_succ_self _)
  have c2 := wk_ce ((flN q).length + (flN p).length + 1) false (flN q) (flN p) fq fp (Nat.lt_succ_self _)
  have hE : Eqv (ce false (ex (flN q)) (ex (flN p))) ((ce false (ex p) (ex q)).map fu) :=
    (ce_eqv (lin_flN hq) (lin_flN hp)).trans (ce_fu _ false (ex p) (ex q) (Nat.lt_succ_self _))
  unfold thn
  rw [if_pos ⟨rq, rp⟩, if_pos ⟨hp, hq⟩]
  cases hw : wk (p.length + q.length + 1) false p q with
  | none =>
    rw [hw] at c1
    rw [← c1] at hE
    cases hw2 : wk ((flN q).length + (flN p).length + 1) false (flN q) (flN p) with
    | none => rfl
    | some r2 => rw [hw2] at c2; rw [← c2] at hE; cases hE
  | some r =>
    rw [hw] at c1
    rw [← c1] at hE
    cases hw2 : wk ((flN q).length + (flN p).length + 1) false (flN q) (flN p) with
    | none => rw [hw2] at c2; rw [← c2] at hE; cases hE
    | some r2 =>
      rw [hw2] at c2
      rw [← c2] at hE
      have ha := byO_al op oq hw
      have ha2 := byO_al fq fp hw2
      have hl : lin (ex (byO r2)) = lin (ex (flp (byO r))) := by
        rw [ex_flp _ ha]
        exact Eqv.some_iff.1 hE
      have hn := nrm_same ha2 (flp_al0 ha) hl
      simp only
      rw [hn, right_nrm_flp ha]
      by_cases hr : right (nrm (byO r)) = true
      · rw [if_pos hr, if_pos hr]
        simp only [Option.map_some, flN]
        rw [if_pos hr, nrm_flp_nrm]
      · rw [if_neg hr, if_neg hr]; rfl

/-- the old side of steps that are done to whole lines -/
theorem wh_last {old : List Tx} {p : Nat} {t : Tx} (hw : wh old = true) (h : old[p]? = some t) (hc : cl t = false) : p + 1 = old.length := by
  induction old generalizing p with
  | nil => simp at h
  | cons u old ih =>
    simp only [wh, Bool.and_eq_true, Bool.or_eq_true] at hw
    cases p with
    | zero =>
      simp only [List.getElem?_cons_zero, Option.some.injEq] at h
      subst h
      rcases hw.1.2 with h2 | h2
      · simp at h2; subst h2; rfl
      · rw [hc] at h2; cases h2
    | succ p =>
      have := ih hw.2 (by simpa using h)
      simp; omega
theorem rsl3_of (old : List Tx) (l : List Oq) (hw : wh old = true) : (∀ x ∈ l, al0 x) → ∀ out p, dsl old l = some (out, p) → ∃ f, rsl 3 l = some f ∧ (f = true → p = old.length) := by
  refine snoc_ind (P := fun l => (∀ x ∈ l, al0 x) → ∀ out p, dsl old l = some (out, p) → ∃ f, rsl 3 l = some f ∧ (f = true → p = old.length)) ?_ ?_ l
  · intro _ out p _
    exact ⟨false, rfl, fun h => by cases h⟩
  · intro l x ih hal out p h
    rw [dsl_snoc] at h
    cases hd : dsl old l with
    | none => rw [hd] at h; cases h
    | some s =>
      obtain ⟨o, q⟩ := s
      rw [hd] at h
      obtain ⟨f, hf, hfe⟩ := ih (fun y hy => hal y (by simp [hy])) o q hd
      have hx := hal x (by simp)
      rw [rsl_snoc, hf]
      obtain ⟨k, n, t⟩ := x
      simp only [al0] at hx
      by_cases e4 : k = 4
      · subst e4
        rw [ds_ins] at h
        simp only [Option.some.injEq, Prod.mk.injEq] at h
        obtain ⟨rfl, rfl⟩ := h
        exact ⟨f, by simp [rs, on], hfe⟩
      · by_cases e1 : k = 1
        · subst e1
          by_cases hle : (q : Int) + n ≤ old.length
          · have hn : n = (n.toNat : Nat) := by omega
            rw [ds_skip n.toNat hn (by omega)] at h
            simp only [Option.some.injEq, Prod.mk.injEq] at h
            obtain ⟨rfl, rfl⟩ := h
            have hff : f = false := by
              cases f with
              | false => rfl
              | true => have := hfe rfl; omega
            subst hff
            exact ⟨false, by simp [rs, on, opn], fun h => by cases h⟩
          · rw [ds_skip_no hle] at h; cases h
        · by_cases ho : old[q]? = some t
          · have hql := (List.getElem?_eq_some_iff.1 ho).1
            have hff : f = false := by
              cases f with
              | false => rfl
              | true => have := hfe rfl; omega
            subst hff
            have hp : p = q + 1 := by
              by_cases e3 : k = 3
              · subst e3; rw [ds_del ho] at h; simp only [Option.some.injEq, Prod.mk.injEq] at h; exact h.2.symm
              · obtain rfl : k = 2 := by omega
                rw [ds_keep ho] at h; simp only [Option.some.injEq, Prod.mk.injEq] at h; exact h.2.symm
            refine ⟨!cl t, ?_, fun hc => ?_⟩
            · have hk : k = 2 ∨ k = 3 := by omega
              rcases hk with rfl | rfl <;> simp [rs, on, opn]
            · rw [hp]; exact wh_last hw ho (by simpa using hc)
          · rw [ds_no e1 e4 ho] at h; cases h
/-- steps that are done to whole lines, and leave whole lines, are right, in order -/
theorem right_of_dsl {l : List Oq} {old out : List Tx} {p : Nat} (hal : ∀ x ∈ l, al0 x) (hw : wh old = true) (hd : dsl old l = some (out, p)) (hw2 : wh (out ++ old.drop p) = true) (hl : old.length ≤ 2147483648) (hl2 : (out ++ old.drop p).length ≤ 2147483648) : right (nrm l) = true := by
  have h := dn old l hal out p hd
  obtain ⟨f, hf, _⟩ := rsl3_of old l hw hal out p hd
  obtain ⟨f2, hf2, _⟩ := rsl3_of (out ++ old.drop p) (flp l) hw2 (flp_al0 hal) _ _ (dsl_flp old l hal out p hd (old.drop p))
  rw [(flp_rsl l).1] at hf2
  rw [right_nrm_iff hal, hf, hf2]
  have h3 := h.o3
  have h4 := h.o4
  have h5 := h.le
  rw [List.length_append] at hl2
  exact ⟨rfl, rfl, by omega, by omega⟩
/-- what two are does what both do -/
theorem thn_does {p q : List Oq} {old a b : List Tx} (h1 : doo p old = some a) (h2 : doo q a = some b) (hl : old.length ≤ 2147483648) (hl2 : b.length ≤ 2147483648) : ∃ l, thn p q = some l ∧ doo l old = some b := by
  obtain ⟨rp, wo, o1, p1, d1, e1, wa, n1⟩ := doo_some h1
  obtain ⟨rq, _, o2, p2, d2, e2, wb, n2⟩ := doo_some h2
  have op := right_ok rp
  have oq := right_ok rq
  have u1 : rnu (ex p) old = some a := by rw [← rnu_dsl (right_al0 rp), d1, e1]; rfl
  have u2 : rnu (ex q) a = some b := by rw [← rnu_dsl (right_al0 rq), d2, e2]; rfl
  obtain ⟨u, hu, hb⟩ := ce_does _ false (ex p) (ex q) old a b (Nat.lt_succ_self _) u1 u2 wa (fun h => by cases h)
  have c1 := wk_ce (p.length + q.length + 1) false p q op oq (Nat.lt_succ_self _)
  rw [hu] at c1
  obtain ⟨r, hw, rfl⟩ := Option.map_eq_some_iff.1 c1
  have ha := byO_al op oq hw
  rw [← rnu_dsl ha] at hb
  obtain ⟨s, hd, hs⟩ := Option.map_eq_some_iff.1 hb
  obtain ⟨out, pp⟩ := s
  simp only at hs
  have hr := right_of_dsl ha wo hd (by rw [hs]; exact wb) hl (by rw [hs]; exact hl2)
  refine ⟨nrm (byO r), ?_, ?_⟩
  · unfold thn
    rw [if_pos ⟨rp, rq⟩, hw]
    simp only
    rw [if_pos hr]
  · have hdn : dsl old (nrm (byO r)) = some (out, pp) := (dsl_nfo old (byO r) ha).trans hd
    unfold doo
    rw [if_pos ⟨hr, wo⟩, hdn]
    simp only
    rw [hs, if_pos wb]

end Go.Proofs.Ytbmnflldjkcgnaa.Ol

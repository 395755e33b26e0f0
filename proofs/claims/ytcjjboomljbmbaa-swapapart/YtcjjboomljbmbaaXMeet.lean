
/-
  Plain laws of what is told at each place where two lists of steps meet: whose change it is, and what it is to either in the other order; conditions: both are right by themselves.
-/
import Derived.Test.YtcjjboomljbmbaaXRef
import Derived.Test.YtcjjboomljbmbaaCRow
import Derived.Test.YtcjjboomljbmbaaCTog2
namespace Go.Proofs.Ytcjjboomljbmbaa.Ol
open Go.Proofs.Ytcjjboomljbmbaa.Ln

/-- whose change is told: 1 the first's, 2 the second's, 3 what the first brings and the second takes -/
def whs (m : Oq × Oq) : Int := if chg m.1 = true then (if chg m.2 = true then 3 else 1) else (if chg m.2 = true then 2 else 0)
theorem whs_is (m : Oq × Oq) : whs m = 0 ∨ whs m = 1 ∨ whs m = 2 ∨ whs m = 3 := by
  unfold whs; split <;> split <;> simp
def tlB (m : Oq × Oq) : List (Oq × Int) := if (tld m).1 = 0 then [] else [(tld m, whs m)]
theorem wk_stepB {f : Nat} {e : Bool} {P Q : List Oq} (hP : Al P) (hQ : Al Q) (hne : ¬ (P = [] ∧ Q = [])) :
    wk (f + 1) e P Q = if (mid (mt P Q) && (e || !agr (mt P Q))) = true then none else (wk f (nxE (mt P Q) e) (nxP P Q) (nxQ P Q)).map fun r => (tlB (mt P Q) ++ r.1, (whs (mt P Q) == 3) || r.2) := by
  have hw := wkN_is hP hQ hne
  have kP := hd_kind P
  have kQ := hd_kind Q
  have aP := hP.hd.1
  have aQ := hQ.hd.1
  have hne2 : ¬ ((P.isEmpty && Q.isEmpty) = true) := by
    intro h
    simp only [Bool.and_eq_true, List.isEmpty_iff] at h
    exact hne h
  rw [wk, if_neg hne2]
  by_cases h3 : (hdO P).1 = 3
  · have h3' : (hdP P).1 = 3 := kP.1.trans h3
    have hp : P ≠ [] := by rintro rfl; cases h3
    obtain ⟨x, P', rfl⟩ := List.exists_cons_of_ne_nil hp
    have hx : x.1 = 3 := h3
    have hmt : mt (x :: P') Q = (x, zO) := by unfold mt; rw [if_pos h3']; rfl
    rw [if_pos h3, hmt]
    have hm : mid (x, zO) = false := by simp [mid, zO]
    have hwh : whs (x, zO) = 1 := by simp [whs, chg, zO, hx]
    have ht : tlB (x, zO) = [(x, 1)] := by unfold tlB; rw [hwh]; simp [tld, zO, hx]
    rw [hm, ht, hwh, Bool.false_and, if_neg (by simp)]
    rw [show nxE (x, zO) e = e by unfold nxE; rw [hm]; rfl, show nxP (x :: P') Q = P' by unfold nxP; rw [if_pos h3']; rfl, show nxQ (x :: P') Q = Q by unfold nxQ; rw [if_pos h3']]
    rfl
  · have h3' : ¬ (hdP P).1 = 3 := fun h => h3 (kP.1.symm.trans h)
    rw [if_neg h3]
    by_cases h4 : (hdO Q).1 = 4
    · have h4' : (hdP Q).1 = 4 := kQ.1.trans h4
      have hq : Q ≠ [] := by rintro rfl; cases h4
      obtain ⟨y, Q', rfl⟩ := List.exists_cons_of_ne_nil hq
      have hy : y.1 = 4 := h4
      have hmt : mt P (y :: Q') = (zO, y) := by unfold mt; rw [if_neg h3', if_pos h4']; rfl
      rw [if_pos h4, hmt]
      have hm : mid (zO, y) = false := by simp [mid, zO]
      have hwh : whs (zO, y) = 2 := by simp [whs, chg, zO, hy]
      have ht : tlB (zO, y) = [(y, 2)] := by unfold tlB; rw [hwh]; simp [tld, zO, hy]
      rw [hm, ht, hwh, Bool.false_and, if_neg (by simp)]
      rw [show nxE (zO, y) e = e by unfold nxE; rw [hm]; rfl, show nxP P (y :: Q') = P by unfold nxP; rw [if_neg h3', if_pos h4'], show nxQ P (y :: Q') = Q' by unfold nxQ; rw [if_neg h3', if_pos h4']; rfl]
      rfl
    · have h4' : ¬ (hdP Q).1 = 4 := fun h => h4 (kQ.1.symm.trans h)
      rw [if_neg h4, hw]
      have hmt : mt P Q = (psO (hdP P) (mtN P Q), psO (hdP Q) (mtN P Q)) := by unfold mt; rw [if_neg h3', if_neg h4']
      have hk1 : (mt P Q).1.1 = (hdO P).1 := by rw [hmt]; show (psO _ _).1 = _; rw [psO_kind]; exact kP.1
      have hk2 : (mt P Q).2.1 = (hdO Q).1 := by rw [hmt]; show (psO _ _).1 = _; rw [psO_kind]; exact kQ.1
      have ht1 : (mt P Q).1.2.2 = (hdO P).2.2 := by rw [hmt]; show (psO _ _).2.2 = _; rw [psO_text]; exact kP.2
      have ht2 : (mt P Q).2.2.2 = (hdO Q).2.2 := by rw [hmt]; show (psO _ _).2.2 = _; rw [psO_text]; exact kQ.2
      have ho1 : opn (mt P Q).1 = opn (hdO P) := by unfold opn; rw [hk1, ht1]
      have ho2 : opn (mt P Q).2 = opn (hdO Q) := by unfold opn; rw [hk2, ht2]
      have c1 := kind_al aP
      have c2 := kind_al aQ
      rw [kP.1] at c1
      rw [kQ.1] at c2
      have hm : mid (mt P Q) = true := by
        unfold mid; rw [hk1, hk2]; simp only [Bool.and_eq_true, Bool.not_eq_true', beq_eq_false_iff_ne]; omega
      rw [hm, Bool.true_and, show nxE (mt P Q) e = (opn (hdO P) || opn (hdO Q)) by unfold nxE; rw [hm, ho1, ho2]; rfl]
      rw [show nxP P Q = onn P (mtN P Q) by unfold nxP; rw [if_neg h3', if_neg h4'], show nxQ P Q = onn Q (mtN P Q) by unfold nxQ; rw [if_neg h3', if_neg h4']]
      cases e with
      | true => rfl
      | false =>
        rw [if_neg (by simp), Bool.false_or]
        by_cases hag : (hdO P).1 ≠ 1 ∧ (hdO Q).1 ≠ 1 ∧ (hdO P).2.2 ≠ (hdO Q).2.2
        · rw [if_pos hag, if_pos (by unfold agr; rw [hk1, hk2, ht1, ht2]; simp [hag.1, hag.2.1, hag.2.2])]
        · have hag2 : agr (mt P Q) = true := by
            unfold agr; rw [hk1, hk2, ht1, ht2]
            simp only [Bool.or_eq_true, beq_iff_eq, decide_eq_true_eq]
            by_cases a1 : (hdO P).1 = 1
            · exact Or.inl (Or.inl a1)
            · by_cases a2 : (hdO Q).1 = 1
              · exact Or.inl (Or.inr a2)
              · exact Or.inr (Decidable.byContradiction fun a3 => hag ⟨a1, a2, a3⟩)
          rw [if_neg hag, hag2, if_neg (by simp)]
          have hn := mtN_pos hP hQ
          have e1 : (hdO P).1 ≠ 1 → (mt P Q).1 = hdO P := fun h => by
            cases P with
            | nil => exact absurd rfl h
            | cons x P' => rw [hmt]; show psO _ _ = _; unfold psO; rw [if_neg (show ¬ (hdP (x :: P')).1 = 1 from h)]; rfl
          have e2 : (hdO Q).1 ≠ 1 → (mt P Q).2 = hdO Q := fun h => by
            cases Q with
            | nil => exact absurd rfl h
            | cons y Q' => rw [hmt]; show psO _ _ = _; unfold psO; rw [if_neg (show ¬ (hdP (y :: Q')).1 = 1 from h)]; rfl
          have e3 : (hdO Q).1 = 1 → (mt P Q).2 = (1, mtN P Q, []) := fun h => by
            rw [hmt]; show psO _ _ = _; unfold psO; rw [if_pos (kQ.1.trans h)]
            rcases aQ with ⟨_, _, a⟩ | ⟨a, _⟩
            · rw [a]
            · exfalso; rw [kQ.1] at a; omega
          have n1 : (hdO P).1 ≠ 0 := by omega
          have n2 : (hdO Q).1 ≠ 0 := by omega
          have key : wkO (hdO P) (hdO Q) (mtN P Q) = tlB (mt P Q) ∧ ((hdO P).1 == 4 && (hdO Q).1 == 3) = (whs (mt P Q) == 3) := by
            unfold wkO tlB tld whs chg
            rw [hk1, hk2]
            rcases c1 with c1 | c1 | c1 | c1 <;> rcases c2 with c2 | c2 | c2 | c2 <;> first | exact absurd c1 h3 | exact absurd c2 h4 | skip
            all_goals simp only [c1, c2] at e1 e2 e3 ⊢
            all_goals simp (config := { decide := true }) only [if_true, if_false] at e1 e2 e3 ⊢
            all_goals simp_all
            all_goals simp [zO]
          rw [key.1, key.2]

theorem tl_some {P Q : List Oq} (hP : Al P) (hQ : Al Q) (h : whs (mt P Q) ≠ 3) : (tld (mt P Q)).1 ≠ 0 := by
  have kP := kind_al hP.hd.1
  have kQ := kind_al hQ.hd.1
  unfold mt at h ⊢
  by_cases h3 : (hdP P).1 = 3
  · rw [if_pos h3] at h ⊢
    simp [tld, zO, h3]
  · rw [if_neg h3] at h ⊢
    by_cases h4 : (hdP Q).1 = 4
    · rw [if_pos h4] at h ⊢
      simp [tld, zO, h4]
    · rw [if_neg h4] at h ⊢
      simp only [whs, chg, tld, psO_kind] at h ⊢
      rcases kP with c | c | c | c <;> rcases kQ with d | d | d | d <;> first | exact absurd c h3 | exact absurd d h4 | skip
      all_goals simp [c, d, psO_kind] at h ⊢

/-- what is added to the first of the other order, and to the second -/
def fA (k : Int) (o : Oq) : List Oq := if k = 0 ∨ k = 2 then [o] else if o.1 = 3 then [(2, o.2.1, o.2.2)] else []
def sA (k : Int) (o : Oq) : List Oq := if k = 0 then [o] else if k = 2 then (if o.1 = 4 then [(2, o.2.1, o.2.2)] else []) else [o]
theorem fA_le (k : Int) (o : Oq) : (fA k o).length ≤ 1 := by
  unfold fA; split
  · exact Nat.le_refl _
  · split <;> simp
theorem sA_le (k : Int) (o : Oq) : (sA k o).length ≤ 1 := by
  unfold sA; split
  · exact Nat.le_refl _
  · split
    · split <;> simp
    · exact Nat.le_refl _
/-- do the two hang together here? -/
def hng (row k : Int) : Bool := k == 3 || (decide (0 < k) && decide (0 < row) && !(k == row))

/-- what apart knows of its lists -/
structure XI (p q : List Oq) (r : List (Oq × Int) × Bool) (P Q : List Oq) (row : Int) (A B : List Oq) : Prop where
  tgt : ∃ f e s, P.length + Q.length < f ∧ wk f e P Q = some s ∧ A ++ fsO s.1 = fsO r.1 ∧ B ++ snO s.1 = snO r.1 ∧ (nbO row s.1 || s.2) = (nbO 0 r.1 || r.2)
  rw : row = 0 ∨ row = 1 ∨ row = 2
  alP : Al P
  alQ : Al Q
  fP : Fit P
  fQ : Fit Q
  lA : A.length + P.length + Q.length ≤ p.length + q.length
  lB : B.length + P.length + Q.length ≤ p.length + q.length
theorem XI.start {p q : List Oq} {r : List (Oq × Int) × Bool} (hp : Al p) (hq : Al q) (fp : Fit p) (fq : Fit q) (h : wk (p.length + q.length + 1) false p q = some r) : XI p q r p q 0 [] [] :=
  ⟨⟨_, false, r, Nat.lt_succ_self _, h, rfl, rfl, rfl⟩, Or.inl rfl, hp, hq, fp, fq, by simp, by simp⟩
theorem XI.next {p q P Q A B : List Oq} {r : List (Oq × Int) × Bool} {row : Int} (h : XI p q r P Q row A B) (hne : ¬ (P = [] ∧ Q = [])) :
    ∃ f e s, (nxP P Q).length + (nxQ P Q).length < f ∧ wk f e (nxP P Q) (nxQ P Q) = some s ∧ A ++ fsO (tlB (mt P Q) ++ s.1) = fsO r.1 ∧ B ++ snO (tlB (mt P Q) ++ s.1) = snO r.1 ∧ (nbO row (tlB (mt P Q) ++ s.1) || ((whs (mt P Q) == 3) || s.2)) = (nbO 0 r.1 || r.2) := by
  obtain ⟨f, e, s, hf, hw, h1, h2, h3⟩ := h.tgt
  obtain ⟨f', rfl⟩ : ∃ f', f = f' + 1 := ⟨f - 1, by omega⟩
  have hl := nx_len h.alP h.alQ hne
  rw [wk_stepB h.alP h.alQ hne] at hw
  split at hw
  · cases hw
  · obtain ⟨s', hs', rfl⟩ := Option.map_eq_some_iff.1 hw
    exact ⟨f', _, s', by omega, hs', h1, h2, h3⟩
theorem XI.stop {p q P Q A B : List Oq} {r : List (Oq × Int) × Bool} {row : Int} (h : XI p q r P Q row A B) (hne : ¬ (P = [] ∧ Q = [])) (hh : hng row (whs (mt P Q)) = true) : (nbO 0 r.1 || r.2) = true := by
  obtain ⟨f, e, s, _, _, _, _, h3⟩ := h.next hne
  rw [← h3]
  unfold hng at hh
  by_cases k3 : whs (mt P Q) = 3
  · rw [k3]; simp
  · have hb : (whs (mt P Q) == 3) = false := by simpa using k3
    rw [hb, Bool.false_or] at hh
    have ht := tl_some h.alP h.alQ k3
    rw [show tlB (mt P Q) = [(tld (mt P Q), whs (mt P Q))] by unfold tlB; rw [if_neg ht]]
    show (((decide (0 < whs (mt P Q)) && decide (0 < row) && !(whs (mt P Q) == row)) || _) || _) = true
    rw [hh]; simp
theorem XI.step {p q P Q A B : List Oq} {r : List (Oq × Int) × Bool} {row : Int} (h : XI p q r P Q row A B) (hne : ¬ (P = [] ∧ Q = [])) (hh : hng row (whs (mt P Q)) = false) :
    XI p q r (nxP P Q) (nxQ P Q) (whs (mt P Q)) (A ++ fA (whs (mt P Q)) (tld (mt P Q))) (B ++ sA (whs (mt P Q)) (tld (mt P Q))) := by
  obtain ⟨f, e, s, hf, hw, h1, h2, h3⟩ := h.next hne
  unfold hng at hh
  simp only [Bool.or_eq_false_iff] at hh
  have k3 : whs (mt P Q) ≠ 3 := by simpa using hh.1
  have ht := tl_some h.alP h.alQ k3
  have hl := nx_len h.alP h.alQ hne
  have la := fA_le (whs (mt P Q)) (tld (mt P Q))
  have lb := sA_le (whs (mt P Q)) (tld (mt P Q))
  have hA := h.lA
  have hB := h.lB
  rw [show tlB (mt P Q) = [(tld (mt P Q), whs (mt P Q))] by unfold tlB; rw [if_neg ht]] at h1 h2 h3
  refine ⟨⟨f, e, s, hf, hw, ?_, ?_, ?_⟩, ?_, (nx_al h.alP h.alQ).1, (nx_al h.alP h.alQ).2, (nx_fit h.fP h.fQ).1, (nx_fit h.fP h.fQ).2, ?_, ?_⟩
  · rw [← h1, List.append_assoc]; rfl
  · rw [← h2, List.append_assoc]; rfl
  · rw [← h3, hh.1, Bool.false_or]
    show _ = (((decide (0 < whs (mt P Q)) && decide (0 < row) && !(whs (mt P Q) == row)) || nbO (whs (mt P Q)) s.1) || s.2)
    rw [hh.2, Bool.false_or]
  · rcases whs_is (mt P Q) with k | k | k | k
    · exact Or.inl k
    · exact Or.inr (Or.inl k)
    · exact Or.inr (Or.inr k)
    · exact absurd k k3
  · rw [List.length_append]; omega
  · rw [List.length_append]; omega
theorem XI.end_ {p q A B : List Oq} {r : List (Oq × Int) × Bool} {row : Int} (h : XI p q r [] [] row A B) : A = fsO r.1 ∧ B = snO r.1 ∧ (nbO 0 r.1 || r.2) = false := by
  obtain ⟨f, e, s, hf, hw, h1, h2, h3⟩ := h.tgt
  obtain ⟨f', rfl⟩ : ∃ f', f = f' + 1 := ⟨f - 1, by omega⟩
  simp [wk] at hw
  subst hw
  rw [← h1, ← h2, ← h3]
  exact ⟨by simp [fsO], by simp [snO], rfl⟩
/-- right behind the order is right ahead of it -/
theorem right_behind {l : List Oq} (ha : ∀ x ∈ l, al0 x) : right (nrm l) = right l := by
  have hi := right_nrm_iff ha
  by_cases hr : right l = true
  · rw [hr]; exact right_nrm hr
  · rw [Bool.eq_false_iff.2 hr]
    refine Bool.eq_false_iff.2 fun hn => hr ?_
    obtain ⟨h1, h2, h3, h4⟩ := hi.1 hn
    have hal : l.all alone = true := List.all_eq_true.2 fun x hx => alone_of (ha x hx) (by
      rcases ha x hx with ⟨e, _⟩ | ⟨_, e, _⟩
      · have := tot_le 3 l x hx
        simp only [ln, if_pos e] at this
        omega
      · omega)
    unfold right
    simp only [hal, h1, h2, h3, h4, decide_true, Bool.and_self]

end Go.Proofs.Ytcjjboomljbmbaa.Ol


/-
  What the program's own row answers: how many lines a step is about, whether a row has come to its end, which step comes next, what is left behind it; conditions: where the row lies, its lengths and numbers.
-/
import Derived.Test.YtcdjemheokmglabCMore
import Derived.Test.YtcdjemheokmglabONorm
import Derived.Test.YtcdjemheokmglabCKeep
import Derived.Test.YtcdjemheokmglabOTop
namespace Go.Proofs.Ytcdjemheokmglab.Ol
open Go.Proofs.Ytcdjemheokmglab.Ln

/-- the step that comes next -/
def hdP : List Oq → Oq
  | [] => (1, 2147483648, [])
  | x :: _ => x
def lng (x : Oq) : Int := if x.1 = 1 then x.2.1 else 1
def psO (x : Oq) (n : Int) : Oq := if x.1 = 1 then (1, n, x.2.2) else x
def zO : Oq := (0, 0, [])
def mtN (P Q : List Oq) : Int := min (lng (hdP P)) (lng (hdP Q))
/-- what both do at one place -/
def mt (P Q : List Oq) : Oq × Oq := if (hdP P).1 = 3 then (hdP P, zO) else if (hdP Q).1 = 4 then (zO, hdP Q) else (psO (hdP P) (mtN P Q), psO (hdP Q) (mtN P Q))
def nxP (P Q : List Oq) : List Oq := if (hdP P).1 = 3 then P.tail else if (hdP Q).1 = 4 then P else onn P (mtN P Q)
def nxQ (P Q : List Oq) : List Oq := if (hdP P).1 = 3 then Q else if (hdP Q).1 = 4 then Q.tail else onn Q (mtN P Q)
def mid (m : Oq × Oq) : Bool := !(m.1.1 == 0) && !(m.2.1 == 0)
def agr (m : Oq × Oq) : Bool := m.1.1 == 1 || m.2.1 == 1 || decide (m.1.2.2 = m.2.2.2)
def tld (m : Oq × Oq) : Oq := if m.2.1 = 0 then m.1 else if m.1.1 = 0 ∨ m.1.1 = 1 then m.2 else if m.2.1 = 1 then m.1 else if m.1.1 = 2 then m.2 else if m.2.1 = 2 then m.1 else zO
/-- what is told of it -/
def tls (m : Oq × Oq) : List Oq := if (tld m).1 = 0 then [] else [tld m]
def nxE (m : Oq × Oq) (e : Bool) : Bool := if mid m = true then opn m.1 || opn m.2 else e

def Al (l : List Oq) : Prop := ∀ x ∈ l, al0 x ∧ x.2.1 ≤ 2147483648
theorem Al.ok {l : List Oq} (h : Al l) : Ok l := fun x hx => ⟨(h x hx).1, by have := (h x hx).2; omega⟩
theorem Al.alone {l : List Oq} (h : Al l) : ∀ x ∈ l, alone x = true := fun x hx => alone_of (h x hx).1 (h x hx).2
theorem Al.tail {l : List Oq} (h : Al l) : Al l.tail := fun x hx => h x (List.mem_of_mem_tail hx)
theorem right_Al {l : List Oq} (h : right l = true) : Al l := fun x hx => by
  have ha := right_al0 h x hx
  refine ⟨ha, ?_⟩
  rcases ha with ⟨e, _⟩ | ⟨_, e, _⟩
  · have := tot_le 3 l x hx
    have h2 := (right_parts h).2.2.2.1
    simp only [ln, if_pos e] at this
    omega
  · omega
theorem Al.onn {l : List Oq} (h : Al l) (n : Int) (hn : 1 ≤ n) : Al (onn l n) := by
  cases l with
  | nil => exact h
  | cons x r =>
    rw [onn_cons]
    split
    · rename_i hx
      intro y hy
      rcases List.mem_cons.1 hy with rfl | hy
      · have := (h x (by simp)).2
        exact ⟨Or.inl ⟨rfl, by show 1 ≤ x.2.1 - n; omega, rfl⟩, by show x.2.1 - n ≤ _; omega⟩
      · exact h y (by simp [hy])
    · exact fun y hy => h y (by simp [hy])
theorem Al.hd {l : List Oq} (h : Al l) : al0 (hdP l) ∧ (hdP l).2.1 ≤ 2147483648 := by
  cases l with
  | nil => exact ⟨Or.inl ⟨rfl, by decide, rfl⟩, by decide⟩
  | cons x l => exact h x (by simp)
theorem lng_pos {x : Oq} (h : al0 x) : 1 ≤ lng x := by
  unfold lng
  rcases h with ⟨e, h1, _⟩ | ⟨e, _⟩
  · rw [if_pos e]; exact h1
  · rw [if_neg (by rcases e with e | e | e <;> omega)]; omega
theorem lng_le {x : Oq} (h2 : x.2.1 ≤ 2147483648) : lng x ≤ 2147483648 := by
  unfold lng; split <;> omega
theorem hd_kind (l : List Oq) : (hdP l).1 = (hdO l).1 ∧ (hdP l).2.2 = (hdO l).2.2 := by cases l <;> exact ⟨rfl, rfl⟩
theorem mtN_pos {P Q : List Oq} (hP : Al P) (hQ : Al Q) : 1 ≤ mtN P Q ∧ mtN P Q ≤ 2147483648 := by
  have h1 := lng_pos hP.hd.1
  have h2 := lng_pos hQ.hd.1
  have h3 := lng_le hP.hd.2
  unfold mtN; omega
theorem wkN_is {P Q : List Oq} (hP : Al P) (hQ : Al Q) (hne : ¬ (P = [] ∧ Q = [])) : wkN (hdO P) (hdO Q) = mtN P Q := by
  have h1 := lng_pos hP.hd.1
  have h2 := lng_pos hQ.hd.1
  have b1 := hP.hd.2
  have b2 := hQ.hd.2
  unfold wkN mtN
  cases P with
  | nil =>
    cases Q with
    | nil => exact absurd ⟨rfl, rfl⟩ hne
    | cons y Q =>
      simp only [hdO, hdP, lng] at *
      by_cases hy : y.1 = 1
      · simp only [hy, and_self, if_true] at *; omega
      · simp only [hy, and_false, if_false] at *; omega
  | cons x P =>
    cases Q with
    | nil =>
      simp only [hdO, hdP, lng] at *
      by_cases hx : x.1 = 1
      · simp only [hx, and_self, if_true] at *; omega
      · simp only [hx, false_and, if_false] at *; omega
    | cons y Q =>
      simp only [hdO, hdP, lng] at *
      by_cases hx : x.1 = 1
      · by_cases hy : y.1 = 1
        · simp only [hx, hy, and_self, if_true] at *
        · simp only [hx, hy, and_false, if_false, if_true] at *; omega
      · by_cases hy : y.1 = 1
        · simp only [hx, hy, false_and, if_false, if_true] at *; omega
        · simp only [hx, hy, false_and, if_false] at *; omega
theorem psO_kind (x : Oq) (n : Int) : (psO x n).1 = x.1 := by
  unfold psO; split
  · rename_i h; exact h.symm
  · rfl
theorem psO_text (x : Oq) (n : Int) : (psO x n).2.2 = x.2.2 := by unfold psO; split <;> rfl
theorem psO_opn (x : Oq) (n : Int) : opn (psO x n) = opn x := by unfold opn; rw [psO_kind, psO_text]
theorem kind_al {x : Oq} (h : al0 x) : x.1 = 1 ∨ x.1 = 2 ∨ x.1 = 3 ∨ x.1 = 4 := by
  rcases h with ⟨e, _⟩ | ⟨e | e | e, _⟩
  · exact Or.inl e
  · exact Or.inr (Or.inl e)
  · exact Or.inr (Or.inr (Or.inl e))
  · exact Or.inr (Or.inr (Or.inr e))
theorem psO_al {x : Oq} {n : Int} (h : al0 x) (hb : x.2.1 ≤ 2147483648) (hn : 1 ≤ n) (hn2 : n ≤ 2147483648) : al0 (psO x n) ∧ (psO x n).2.1 ≤ 2147483648 := by
  unfold psO
  split
  · rename_i h1
    rcases h with ⟨_, _, h3⟩ | ⟨h3, _⟩
    · exact ⟨Or.inl ⟨rfl, hn, h3⟩, hn2⟩
    · omega
  · exact ⟨h, hb⟩

/-- one place further -/
theorem wk_step {f : Nat} {e : Bool} {P Q : List Oq} (hP : Al P) (hQ : Al Q) (hne : ¬ (P = [] ∧ Q = [])) :
    (wk (f + 1) e P Q).map byO = if (mid (mt P Q) && (e || !agr (mt P Q))) = true then none else ((wk f (nxE (mt P Q) e) (nxP P Q) (nxQ P Q)).map byO).map (tls (mt P Q) ++ ·) := by
  have hw := wkN_is hP hQ hne
  have kP := hd_kind P
  have kQ := hd_kind Q
  have aP := hP.hd.1
  have aQ := hQ.hd.1
  have hne2 : ¬ ((P.isEmpty && Q.isEmpty) = true) := by
    intro h
    simp only [Bool.and_eq_true, List.isEmpty_iff] at h
    exact hne h
  rw [wk, if_neg hne2]
  by_cases h3 : (hdO P).1 = 3
  · have h3' : (hdP P).1 = 3 := kP.1.trans h3
    have hp : P ≠ [] := by rintro rfl; cases h3
    obtain ⟨x, P', rfl⟩ := List.exists_cons_of_ne_nil hp
    have hx : x.1 = 3 := h3
    have hmt : mt (x :: P') Q = (x, zO) := by unfold mt; rw [if_pos h3']; rfl
    rw [if_pos h3, hmt]
    have hm : mid (x, zO) = false := by simp [mid, zO]
    have ht : tls (x, zO) = [x] := by simp [tls, tld, zO, hx]
    rw [hm, ht, Bool.false_and, if_neg (by simp)]
    rw [show nxE (x, zO) e = e by unfold nxE; rw [hm]; rfl, show nxP (x :: P') Q = P' by unfold nxP; rw [if_pos h3']; rfl, show nxQ (x :: P') Q = Q by unfold nxQ; rw [if_pos h3']]
    rw [Option.map_map, Option.map_map]
    rfl
  · have h3' : ¬ (hdP P).1 = 3 := fun h => h3 (kP.1.symm.trans h)
    rw [if_neg h3]
    by_cases h4 : (hdO Q).1 = 4
    · have h4' : (hdP Q).1 = 4 := kQ.1.trans h4
      have hq : Q ≠ [] := by rintro rfl; cases h4
      obtain ⟨y, Q', rfl⟩ := List.exists_cons_of_ne_nil hq
      have hy : y.1 = 4 := h4
      have hmt : mt P (y :: Q') = (zO, y) := by unfold mt; rw [if_neg h3', if_pos h4']; rfl
      rw [if_pos h4, hmt]
      have hm : mid (zO, y) = false := by simp [mid, zO]
      have ht : tls (zO, y) = [y] := by simp [tls, tld, zO, hy]
      rw [hm, ht, Bool.false_and, if_neg (by simp)]
      rw [show nxE (zO, y) e = e by unfold nxE; rw [hm]; rfl, show nxP P (y :: Q') = P by unfold nxP; rw [if_neg h3', if_pos h4'], show nxQ P (y :: Q') = Q' by unfold nxQ; rw [if_neg h3', if_pos h4']; rfl]
      rw [Option.map_map, Option.map_map]
      rfl
    · have h4' : ¬ (hdP Q).1 = 4 := fun h => h4 (kQ.1.symm.trans h)
      rw [if_neg h4, hw]
      have hmt : mt P Q = (psO (hdP P) (mtN P Q), psO (hdP Q) (mtN P Q)) := by unfold mt; rw [if_neg h3', if_neg h4']
      have hk1 : (mt P Q).1.1 = (hdO P).1 := by rw [hmt]; show (psO _ _).1 = _; rw [psO_kind]; exact kP.1
      have hk2 : (mt P Q).2.1 = (hdO Q).1 := by rw [hmt]; show (psO _ _).1 = _; rw [psO_kind]; exact kQ.1
      have ht1 : (mt P Q).1.2.2 = (hdO P).2.2 := by rw [hmt]; show (psO _ _).2.2 = _; rw [psO_text]; exact kP.2
      have ht2 : (mt P Q).2.2.2 = (hdO Q).2.2 := by rw [hmt]; show (psO _ _).2.2 = _; rw [psO_text]; exact kQ.2
      have ho1 : opn (mt P Q).1 = opn (hdO P) := by unfold opn; rw [hk1, ht1]
      have ho2 : opn (mt P Q).2 = opn (hdO Q) := by unfold opn; rw [hk2, ht2]
      have c1 := kind_al aP
      have c2 := kind_al aQ
      rw [kP.1] at c1
      rw [kQ.1] at c2
      have hm : mid (mt P Q) = true := by
        unfold mid; rw [hk1, hk2]; simp only [Bool.and_eq_true, Bool.not_eq_true', beq_eq_false_iff_ne]; omega
      rw [hm, Bool.true_and, show nxE (mt P Q) e = (opn (hdO P) || opn (hdO Q)) by unfold nxE; rw [hm, ho1, ho2]; rfl]
      rw [show nxP P Q = onn P (mtN P Q) by unfold nxP; rw [if_neg h3', if_neg h4'], show nxQ P Q = onn Q (mtN P Q) by unfold nxQ; rw [if_neg h3', if_neg h4']]
      cases e with
      | true => rfl
      | false =>
        rw [if_neg (by simp), Bool.false_or]
        by_cases hag : (hdO P).1 ≠ 1 ∧ (hdO Q).1 ≠ 1 ∧ (hdO P).2.2 ≠ (hdO Q).2.2
        · rw [if_pos hag, if_pos (by unfold agr; rw [hk1, hk2, ht1, ht2]; simp [hag.1, hag.2.1, hag.2.2])]
          rfl
        · have hag2 : agr (mt P Q) = true := by
            unfold agr; rw [hk1, hk2, ht1, ht2]
            simp only [Bool.or_eq_true, beq_iff_eq, decide_eq_true_eq]
            by_cases a1 : (hdO P).1 = 1
            · exact Or.inl (Or.inl a1)
            · by_cases a2 : (hdO Q).1 = 1
              · exact Or.inl (Or.inr a2)
              · exact Or.inr (Decidable.byContradiction fun a3 => hag ⟨a1, a2, a3⟩)
          rw [if_neg hag, hag2, if_neg (by simp)]
          rw [Option.map_map, Option.map_map]
          congr 1
          funext r
          show (wkO (hdO P) (hdO Q) (mtN P Q) ++ r.1).map (·.1) = tls (mt P Q) ++ r.1.map (·.1)
          rw [List.map_append]
          congr 1
          have hn := mtN_pos hP hQ
          have e1 : (hdO P).1 ≠ 1 → (mt P Q).1 = hdO P := fun h => by
            cases P with
            | nil => exact absurd rfl h
            | cons x P' => rw [hmt]; show psO _ _ = _; unfold psO; rw [if_neg (show ¬ (hdP (x :: P')).1 = 1 from h)]; rfl
          have e2 : (hdO Q).1 ≠ 1 → (mt P Q).2 = hdO Q := fun h => by
            cases Q with
            | nil => exact absurd rfl h
            | cons y Q' => rw [hmt]; show psO _ _ = _; unfold psO; rw [if_neg (show ¬ (hdP (y :: Q')).1 = 1 from h)]; rfl
          have e3 : (hdO Q).1 = 1 → (mt P Q).2 = (1, mtN P Q, []) := fun h => by
            rw [hmt]; show psO _ _ = _; unfold psO; rw [if_pos (kQ.1.trans h)]
            rcases aQ with ⟨_, _, a⟩ | ⟨a, _⟩
            · rw [a]
            · exfalso; rw [kQ.1] at a; omega
          have n1 : (hdO P).1 ≠ 0 := by omega
          have n2 : (hdO Q).1 ≠ 0 := by omega
          unfold wkO tls tld
          rw [hk1, hk2]
          rcases c1 with c1 | c1 | c1 | c1 <;> rcases c2 with c2 | c2 | c2 | c2 <;> first | exact absurd c1 h3 | exact absurd c2 h4 | skip
          all_goals simp only [c1, c2] at e1 e2 e3 ⊢
          all_goals simp (config := { decide := true }) only [if_true, if_false] at e1 e2 e3 ⊢
          all_goals simp_all

theorem nx_al {P Q : List Oq} (hP : Al P) (hQ : Al Q) : Al (nxP P Q) ∧ Al (nxQ P Q) := by
  have hn := (mtN_pos hP hQ).1
  unfold nxP nxQ
  constructor
  · split
    · exact hP.tail
    · split
      · exact hP
      · exact hP.onn _ hn
  · split
    · exact hQ
    · split
      · exact hQ.tail
      · exact hQ.onn _ hn
theorem nx_len {P Q : List Oq} (hP : Al P) (hQ : Al Q) (hne : ¬ (P = [] ∧ Q = [])) : (nxP P Q).length + (nxQ P Q).length < P.length + Q.length := by
  unfold nxP nxQ
  by_cases h3 : (hdP P).1 = 3
  · rw [if_pos h3, if_pos h3]
    cases P with
    | nil => cases h3
    | cons x P => simp
  · rw [if_neg h3, if_neg h3]
    by_cases h4 : (hdP Q).1 = 4
    · rw [if_pos h4, if_pos h4]
      cases Q with
      | nil => cases h4
      | cons x Q => simp
    · rw [if_neg h4, if_neg h4]
      have l1 := onn_len P (mtN P Q)
      have l2 := onn_len Q (mtN P Q)
      have hmn : mtN P Q = lng (hdP P) ∨ mtN P Q = lng (hdP Q) := by unfold mtN; omega
      have dP : P ≠ [] → mtN P Q = lng (hdP P) → (onn P (mtN P Q)).length + 1 = P.length := fun hp e => by
        refine onn_drop hp ?_
        cases P with
        | nil => exact absurd rfl hp
        | cons x P' =>
          by_cases h : x.1 = 1
          · refine Or.inr ?_
            rw [e]
            show x.2.1 ≤ lng x
            unfold lng; rw [if_pos h]; omega
          · exact Or.inl h
      have dQ : Q ≠ [] → mtN P Q = lng (hdP Q) → (onn Q (mtN P Q)).length + 1 = Q.length := fun hp e => by
        refine onn_drop hp ?_
        cases Q with
        | nil => exact absurd rfl hp
        | cons x Q' =>
          by_cases h : x.1 = 1
          · refine Or.inr ?_
            rw [e]
            show x.2.1 ≤ lng x
            unfold lng; rw [if_pos h]; omega
          · exact Or.inl h
      by_cases hp : P = []
      · have hq : Q ≠ [] := fun h => hne ⟨hp, h⟩
        subst hp
        have := lng_le hQ.hd.2
        have := dQ hq (by
          have e : lng (hdP ([] : List Oq)) = 2147483648 := rfl
          unfold mtN; rw [e]; omega)
        omega
      · by_cases hq : Q = []
        · subst hq
          have := lng_le hP.hd.2
          have := dP hp (by
            have e : lng (hdP ([] : List Oq)) = 2147483648 := rfl
            unfold mtN; rw [e]; omega)
          omega
        · rcases hmn with e | e
          · have := dP hp e; omega
          · have := dQ hq e; omega
theorem mt_al {P Q : List Oq} (hP : Al P) (hQ : Al Q) : ∀ x ∈ tls (mt P Q), al0 x ∧ x.2.1 ≤ 2147483648 := by
  have hn := mtN_pos hP hQ
  have p1 := psO_al hP.hd.1 hP.hd.2 hn.1 hn.2
  have p2 := psO_al hQ.hd.1 hQ.hd.2 hn.1 hn.2
  have hh : (∀ x, x = (mt P Q).1 → x.1 ≠ 0 → al0 x ∧ x.2.1 ≤ 2147483648) ∧ (∀ x, x = (mt P Q).2 → x.1 ≠ 0 → al0 x ∧ x.2.1 ≤ 2147483648) := by
    unfold mt
    split
    · exact ⟨fun x e _ => e ▸ hP.hd, fun x e h => by subst e; exact absurd rfl h⟩
    · split
      · exact ⟨fun x e h => by subst e; exact absurd rfl h, fun x e _ => e ▸ hQ.hd⟩
      · exact ⟨fun x e _ => e ▸ p1, fun x e _ => e ▸ p2⟩
  intro x hx
  unfold tls at hx
  split at hx
  · cases hx
  · rename_i h0
    simp only [List.mem_cons, List.not_mem_nil, or_false] at hx
    subst hx
    unfold tld at h0 ⊢
    split
    · rename_i a; rw [if_pos a] at h0; exact hh.1 _ rfl h0
    · rename_i a; rw [if_neg a] at h0
      split
      · rename_i b; rw [if_pos b] at h0; exact hh.2 _ rfl h0
      · rename_i b; rw [if_neg b] at h0
        split
        · rename_i c; rw [if_pos c] at h0; exact hh.1 _ rfl h0
        · rename_i c; rw [if_neg c] at h0
          split
          · rename_i d; rw [if_pos d] at h0; exact hh.2 _ rfl h0
          · rename_i d; rw [if_neg d] at h0
            split
            · rename_i e; rw [if_pos e] at h0; exact hh.1 _ rfl h0
            · rename_i e; rw [if_neg e] at h0; exact absurd rfl h0

/-- what is asked ahead of the order is what is asked behind it -/
theorem thn_prog {p q : List Oq} (hp : right p = true) (hq : right q = true) : thn p q = match (wk (p.length + q.length + 1) false p q).map byO with
    | none => none
    | some l => if right l = true then some (normL l) else none := by
  unfold thn
  rw [if_pos ⟨hp, hq⟩]
  cases hw : wk (p.length + q.length + 1) false p q with
  | none => rfl
  | some r =>
    show (if right (nrm (byO r)) = true then some (nrm (byO r)) else none) = if right (byO r) = true then some (normL (byO r)) else none
    have ha := byO_al (right_ok hp) (right_ok hq) hw
    have hi := right_nrm_iff ha
    by_cases hr : right (byO r) = true
    · have hrp := right_parts hr
      rw [if_pos hr, if_pos (hi.2 ⟨hrp.2.1, hrp.2.2.1, hrp.2.2.2.1, hrp.2.2.2.2⟩)]
      unfold normL; rw [if_pos hr]
    · rw [if_neg hr, if_neg]
      intro hn
      obtain ⟨h1, h2, h3, h4⟩ := hi.1 hn
      refine hr ?_
      have hal : (byO r).all alone = true := List.all_eq_true.2 fun x hx => alone_of (ha x hx) (by
        rcases ha x hx with ⟨e, _⟩ | ⟨_, e, _⟩
        · have := tot_le 3 (byO r) x hx
          simp only [ln, if_pos e] at this
          omega
        · omega)
      unfold right
      simp only [hal, h1, h2, h3, h4, decide_true, Bool.and_self]

end Go.Proofs.Ytcdjemheokmglab.Ol

namespace Go.Proofs.Ytcdjemheokmglab
open Go.RowKit Go.Proofs.Ytcdjemheokmglab.Ln Go.Proofs.Ytcdjemheokmglab.Ol

/-- a row in memory: what is left, and how many lines of the first step are gone -/
def RowC (W : World) (b : Nat) (v : Value) (g : Int) : Prop := W.heap[b]? = some (.cells #[v, .int .i64 g] 52 (0, 0))
theorem RowC.lt {W : World} {b : Nat} {v : Value} {g : Int} (h : RowC W b v g) : b < W.heap.size := (Array.getElem?_eq_some_iff.1 h).1
theorem RowC.c0 {W : World} {b : Nat} {v : Value} {g : Int} (h : RowC W b v g) : W.cell? ⟨b, 0, none⟩ = some v := by unfold World.cell?; rw [show W.heap[b]? = _ from h]; rfl
theorem RowC.c1 {W : World} {b : Nat} {v : Value} {g : Int} (h : RowC W b v g) : W.cell? ⟨b, 1, none⟩ = some (.int .i64 g) := by unfold World.cell?; rw [show W.heap[b]? = _ from h]; rfl
theorem RowC.thaw {W : World} {b : Nat} {v : Value} {g : Int} (h : RowC W b v g) (i : Nat) : W.frozen? ⟨b, i, none⟩ = false := by simp [World.frozen?, show W.heap[b]? = _ from h]
theorem RowC.keep {W W' : World} {b : Nat} {v : Value} {g : Int} (h : RowC W b v g) (hb : W'.heap[b]? = W.heap[b]?) : RowC W' b v g := hb.trans h
theorem RowC.later {W W' : World} {b : Nat} {v : Value} {g : Int} (h : RowC W b v g) (hb : Below W.heap.size W W') : RowC W' b v g := h.keep (hb.block b h.lt)
theorem RowC.set0 {W : World} {b : Nat} {v : Value} {g : Int} (h : RowC W b v g) (v' : Value) : RowC (W.setCell ⟨b, 0, none⟩ v') b v' g := by
  obtain ⟨hlt, hk⟩ := Array.getElem?_eq_some_iff.1 h
  show (W.heap.modify b _)[b]? = _
  rw [Array.getElem?_eq_getElem (by rw [Array.size_modify]; exact hlt), Array.getElem_modify_self, hk]
  rfl
theorem RowC.set1 {W : World} {b : Nat} {v : Value} {g : Int} (h : RowC W b v g) (g' : Int) : RowC (W.setCell ⟨b, 1, none⟩ (.int .i64 g')) b v g' := by
  obtain ⟨hlt, hk⟩ := Array.getElem?_eq_some_iff.1 h
  show (W.heap.modify b _)[b]? = _
  rw [Array.getElem?_eq_getElem (by rw [Array.size_modify]; exact hlt), Array.getElem_modify_self, hk]
  rfl
/-- but for one block all lies as it lay -/
structure But (b : Nat) (W W' : World) : Prop where
  os : W'.os = W.os
  tape : W'.tape = W.tape
  output : W'.output = W.output
  size : W.heap.size ≤ W'.heap.size
  block : ∀ k, k < W.heap.size → k ≠ b → W'.heap[k]? = W.heap[k]?
theorem But.of_below {b : Nat} {W W' : World} (h : Below W.heap.size W W') : But b W W' := ⟨h.os, h.tape, h.output, h.size, fun k hk _ => h.block k hk⟩
theorem But.trans {b : Nat} {A B C : World} (h : But b A B) (k : But b B C) : But b A C :=
  ⟨k.os.trans h.os, k.tape.trans h.tape, k.output.trans h.output, Nat.le_trans h.size k.size, fun i hi hne => (k.block i (Nat.lt_of_lt_of_le hi h.size) hne).trans (h.block i hi hne)⟩
theorem But.set {b : Nat} {A B : World} (h : But b A B) (i : Nat) (u : Value) : But b A (B.setCell ⟨b, i, none⟩ u) :=
  h.trans ⟨rfl, rfl, rfl, by simp, fun k _ hne => heap_setCell_ne _ _ _ _ _ hne⟩
theorem But.setNew {b : Nat} {A B : World} (h : But b A B) {c : Nat} (i : Nat) (u : Value) (hc : A.heap.size ≤ c) : But b A (B.setCell ⟨c, i, none⟩ u) :=
  ⟨h.os, h.tape, h.output, by simpa using h.size, fun k hk hne => (heap_setCell_ne _ _ _ _ _ (by omega)).trans (h.block k hk hne)⟩
theorem But.alloc {b : Nat} {A B : World} (h : But b A B) (o : Obj) : But b A (B.alloc o) := h.trans (But.of_below (bel_alloc (Below.refl _ _) o))
theorem But.below {b B : Nat} {A W W' : World} (h : Below B A W) (k : But b W W') (hb : B ≤ b) (hs : B ≤ W.heap.size) : Below B A W' :=
  ⟨k.os.trans h.os, k.tape.trans h.tape, k.output.trans h.output, Nat.le_trans h.size k.size, fun i hi => (k.block i (by omega) (by omega)).trans (h.block i hi)⟩

/-- what is left of a row, as steps -/
def curO (l : List Oq) (g : Int) : List Oq :=
  match l with
  | [] => []
  | x :: r => if x.1 = 1 then (1, x.2.1 - g, x.2.2) :: r else x :: r
/-- how many lines of the first step may be gone -/
def Gone (l : List Oq) (g : Int) : Prop := 0 ≤ g ∧ g ≤ 2147483648 ∧ (∀ x r, l = x :: r → x.1 = 1 → g < x.2.1 ∧ x.2.1 ≤ 2147483648) 

/-- a step in a block of its own -/
def OpC (W : World) (b : Nat) (x1 x2 : Int) (x3 : Tx) : Prop := W.heap[b]? = some (.cells #[.int .i64 x1, .int .i64 x2, .string ⟨x3.toArray⟩] 30 (0, 0))
theorem OpC.new (W : World) (x1 x2 : Int) (x3 : Tx) : OpC (W.alloc (opO x1 x2 x3)) W.heap.size x1 x2 x3 := World.alloc_heap_new W _
theorem OpC.newAt {W : World} {b : Nat} {x1 x2 : Int} {x3 : Tx} (h : W.heap.size = b) : OpC (W.alloc (.cells #[.int .i64 x1, .int .i64 x2, .string ⟨x3.toArray⟩] 30)) b x1 x2 x3 := by subst h; exact World.alloc_heap_new W _
theorem OpC.lt {W : World} {b : Nat} {x1 x2 : Int} {x3 : Tx} (h : OpC W b x1 x2 x3) : b < W.heap.size := (Array.getElem?_eq_some_iff.1 h).1
theorem OpC.cells {W : World} {b : Nat} {x1 x2 : Int} {x3 : Tx} (h : OpC W b x1 x2 x3) : W.cell? ⟨b, 0, none⟩ = some (.int .i64 x1) ∧ W.cell? ⟨b, 1, none⟩ = some (.int .i64 x2) ∧ W.cell? ⟨b, 2, none⟩ = some (.string ⟨x3.toArray⟩) := by
  unfold World.cell?; rw [show W.heap[b]? = _ from h]; exact ⟨rfl, rfl, rfl⟩
theorem OpC.thaw {W : World} {b : Nat} {x1 x2 : Int} {x3 : Tx} (h : OpC W b x1 x2 x3) (i : Nat) : W.frozen? ⟨b, i, none⟩ = false := by simp [World.frozen?, show W.heap[b]? = _ from h]
theorem OpC.later {W W' : World} {b : Nat} {x1 x2 : Int} {x3 : Tx} (h : OpC W b x1 x2 x3) (hb : Below W.heap.size W W') : OpC W' b x1 x2 x3 := (hb.block b h.lt).trans h
theorem OpC.keep {W W' : World} {b : Nat} {x1 x2 : Int} {x3 : Tx} (h : OpC W b x1 x2 x3) (hb : W'.heap[b]? = W.heap[b]?) : OpC W' b x1 x2 x3 := hb.trans h
theorem OpC.alloc {W : World} {b : Nat} {x1 x2 : Int} {x3 : Tx} (h : OpC W b x1 x2 x3) (o : Obj) : OpC (W.alloc o) b x1 x2 x3 := h.later (bel_alloc (Below.refl _ _) o)
theorem OpC.other {W : World} {b : Nat} {x1 x2 : Int} {x3 : Tx} (h : OpC W b x1 x2 x3) {c i : Nat} {u : Value} (hc : b ≠ c) : OpC (W.setCell ⟨c, i, none⟩ u) b x1 x2 x3 := h.keep (heap_setCell_ne _ _ _ _ _ hc)
theorem OpC.drewN {W : World} {b : Nat} {x1 x2 : Int} {x3 : Tx} (h : OpC W b x1 x2 x3) (n : Nat) : OpC (W.drewN n) b x1 x2 x3 := h.keep rfl
theorem OpC.drew {W : World} {b : Nat} {x1 x2 : Int} {x3 : Tx} (h : OpC W b x1 x2 x3) : OpC W.drew b x1 x2 x3 := h.keep rfl
theorem OpC.set0 {W : World} {b : Nat} {x1 x2 : Int} {x3 : Tx} (h : OpC W b x1 x2 x3) (y : Int) : OpC (W.setCell ⟨b, 0, none⟩ (.int .i64 y)) b y x2 x3 := by
  obtain ⟨hlt, hk⟩ := Array.getElem?_eq_some_iff.1 h
  show (W.heap.modify b _)[b]? = _
  rw [Array.getElem?_eq_getElem (by rw [Array.size_modify]; exact hlt), Array.getElem_modify_self, hk]
  rfl
theorem OpC.set1 {W : World} {b : Nat} {x1 x2 : Int} {x3 : Tx} (h : OpC W b x1 x2 x3) (y : Int) : OpC (W.setCell ⟨b, 1, none⟩ (.int .i64 y)) b x1 y x3 := by
  obtain ⟨hlt, hk⟩ := Array.getElem?_eq_some_iff.1 h
  show (W.heap.modify b _)[b]? = _
  rw [Array.getElem?_eq_getElem (by rw [Array.size_modify]; exact hlt), Array.getElem_modify_self, hk]
  rfl
theorem OpC.set2 {W : World} {b : Nat} {x1 x2 : Int} {x3 : Tx} (h : OpC W b x1 x2 x3) (y : Tx) : OpC (W.setCell ⟨b, 2, none⟩ (.string ⟨y.toArray⟩)) b x1 x2 y := by
  obtain ⟨hlt, hk⟩ := Array.getElem?_eq_some_iff.1 h
  show (W.heap.modify b _)[b]? = _
  rw [Array.getElem?_eq_getElem (by rw [Array.size_modify]; exact hlt), Array.getElem_modify_self, hk]
  rfl
theorem RowC.alloc {W : World} {b : Nat} {v : Value} {g : Int} (h : RowC W b v g) (o : Obj) : RowC (W.alloc o) b v g := h.later (bel_alloc (Below.refl _ _) o)
theorem RowC.other {W : World} {b : Nat} {v : Value} {g : Int} (h : RowC W b v g) {c i : Nat} {u : Value} (hc : b ≠ c) : RowC (W.setCell ⟨c, i, none⟩ u) b v g := h.keep (heap_setCell_ne _ _ _ _ _ hc)
theorem RowC.drewN {W : World} {b : Nat} {v : Value} {g : Int} (h : RowC W b v g) (n : Nat) : RowC (W.drewN n) b v g := h.keep rfl
theorem RowC.drew {W : World} {b : Nat} {v : Value} {g : Int} (h : RowC W b v g) : RowC W.drew b v g := h.keep rfl
theorem But.drewN {b : Nat} {A B : World} (h : But b A B) (n : Nat) : But b A (B.drewN n) := ⟨h.os, h.tape, h.output, h.size, h.block⟩
/-- a step that comes back from its block -/
theorem results_opc {fn : Func} {t : Tmp} (h : fn.results = #[.cell t 30]) (tmps : Array Value) (w : World) (b : Nat) (x1 x2 : Int) (x3 : Tx) (hp : tmps.getD t undef = .pointer (some ⟨b, 0, none⟩)) (hb : OpC w b x1 x2 x3) :
    (results fn tmps).run Try.prog w = .ok (.agg #[.int .i64 x1, .int .i64 x2, .string ⟨x3.toArray⟩]) w := by
  obtain ⟨q0, q1, q2⟩ := hb.cells
  rw [Array.getD_eq_getD_getElem?] at hp
  simp [results, h, hp, go_sem, q0, q1, q2]

theorem results_op {fn : Func} {t : Tmp} (h : fn.results = #[.cell t 30]) (tmps : Array Value) (w : World) (b : Nat) (c0 c1 c2 : Value) (hp : tmps.getD t undef = .pointer (some ⟨b, 0, none⟩)) (q0 : w.cell? ⟨b, 0, none⟩ = some c0) (q1 : w.cell? ⟨b, 1, none⟩ = some c1) (q2 : w.cell? ⟨b, 2, none⟩ = some c2) :
    (results fn tmps).run Try.prog w = .ok (.agg #[c0, c1, c2]) w := by
  rw [Array.getD_eq_getD_getElem?] at hp
  simp [results, h, hp, go_sem, q0, q1, q2]

theorem clong_any (x : Oq) (w : World) : Calls Try.prog 43 #[opV x] w fun e w' => e = .returned (.int .i64 (lng x)) ∧ Below w.heap.size w w' := by
  obtain ⟨x1, x2, x3⟩ := x
  have HB := hidden (bel_alloc (Below.refl w.heap.size w) (opO x1 x2 x3))
  unfold opV
  by_cases h : x1 = 1
  · subst h
    go_enter Try.func43, Try.ntmps43
    go_wp2_with fail
    go_ret
    exact ⟨rfl, HB.out⟩
  · have hb : (x1 == 1) = false := by simpa using h
    go_enter Try.func43, Try.ntmps43
    go_wp2_with fail
    go_ret
    exact ⟨by unfold lng; rw [if_neg h]; rfl, HB.out⟩

theorem cended_any (b : Nat) (ao : Option Addr) (n cap : Nat) (g : Int) (w : World) (h : RowC w b (.slice ao n cap) g) :
    Calls Try.prog 36 #[.pointer (some ⟨b, 0, none⟩)] w fun e w' => e = .returned (.bool (decide (n = 0))) ∧ w' = w := by
  have q0 := h.c0
  have HN := hidden (show ((n : Int) == 0) = decide (n = 0) by by_cases e : n = 0 <;> simp [e])
  clear h
  go_enter Try.func36, Try.ntmps36
  go_wp2_with fail
  go_ret
  exact ⟨by first | rfl | (rw [← HN.out]; rfl) | (rw [HN.out]), rfl⟩

set_option maxHeartbeats 1000000 in
theorem cnext_any (b : Nat) (v : Value) (g : Int) (l : List Oq) (w : World) (h : RowC w b v g) (hO : OpsAt w v l) (hg : Gone l g) :
    Calls Try.prog 41 #[.pointer (some ⟨b, 0, none⟩)] w fun e w' => e = .returned (opV (hdP (curO l g))) ∧ Below w.heap.size w w' := by
  cases l with
  | nil =>
    obtain ⟨ao, cap, rfl⟩ := hO.shape
    have HR := hidden (h.later (bel_alloc (Below.refl _ _) (opO 0 0 [])))
    clear h hO hg
    go_enter Try.func41, Try.ntmps41
    go_wp2_with fail
    refine (cended_any b ao 0 cap g _ HR.out).mono ?_
    rintro e w' ⟨rfl, rfl⟩
    go_wp2_with fail
    refine bodyPost_ret (results_op rfl _ _ w.heap.size (.int .i64 1) (.int .i64 2147483648) (.string ⟨#[]⟩) rfl (by simp) (by simp) (by simp)) rfl ?_
    exact ⟨rfl, by (with_reducible (repeat (first | exact Below.refl _ _ | exact Below.refl _ _ | apply bel_alloc | apply bel_put | apply bel_set | apply Below.drew | apply below_drewN | assumption | omega)))⟩
  | cons x l =>
    obtain ⟨x1, x2, x3⟩ := x
    obtain ⟨b', o, cap, rfl, hcap, hb', c1, c2, c3⟩ := hO.first
    simp only at c1 c2 c3
    have HR := hidden (h.later (bel_alloc (Below.refl _ _) (opO 0 0 [])))
    have r0 := h.c0
    have r1 := h.c1
    have rl := h.lt
    have hne : b ≠ w.heap.size := by omega
    have hne' : b' ≠ w.heap.size := by omega
    clear h hO
    by_cases h1 : x1 = 1
    · subst h1
      obtain ⟨g1, g2, g3⟩ := hg
      obtain ⟨g4, g5⟩ := g3 (1, x2, x3) l rfl rfl
      simp only at g4 g5
      go_enter Try.func41, Try.ntmps41
      go_wp2_with fail
      refine (cended_any b _ (l.length + 1) cap g _ HR.out).mono ?_
      rintro e w' ⟨rfl, rfl⟩
      rw [show decide (l.length + 1 = 0) = false by simp]
      clear HR
      go_upto_region 5 with fail
      go_region
      go_wp2_with fail
      refine bodyPost_ret (results_op rfl _ _ w.heap.size (.int .i64 1) (.int .i64 (x2 - g)) (.string ⟨x3.toArray⟩) rfl (by simp) (by simp) (by simp)) rfl ?_
      exact ⟨rfl, by (with_reducible (repeat (first | exact Below.refl _ _ | exact Below.refl _ _ | apply bel_alloc | apply bel_put | apply bel_set | apply Below.drew | apply below_drewN | assumption | omega)))⟩
    · have h1b : (x1 == 1) = false := by simpa using h1
      go_enter Try.func41, Try.ntmps41
      go_wp2_with fail
      refine (cended_any b _ (l.length + 1) cap g _ HR.out).mono ?_
      rintro e w' ⟨rfl, rfl⟩
      rw [show decide (l.length + 1 = 0) = false by simp]
      clear HR
      go_wp2_with fail
      refine bodyPost_ret (results_op rfl _ _ w.heap.size (.int .i64 x1) (.int .i64 x2) (.string ⟨x3.toArray⟩) rfl (by simp) (by simp) (by simp)) rfl ?_
      exact ⟨by rw [show curO ((x1, x2, x3) :: l) g = (x1, x2, x3) :: l by unfold curO; exact if_neg h1]; rfl, by (with_reducible (repeat (first | exact Below.refl _ _ | exact Below.refl _ _ | apply bel_alloc | apply bel_put | apply bel_set | apply Below.drew | apply below_drewN | assumption | omega)))⟩

/-- what is left behind n lines of the first step -/
theorem curO_onn {x : Oq} {r : List Oq} {g : Int} (n : Int) (h3 : x.1 = 1 → x.2.2 = []) :
    onn (curO (x :: r) g) n = if x.1 = 1 ∧ n < x.2.1 - g then curO (x :: r) (g + n) else r := by
  by_cases h : x.1 = 1
  · rw [show curO (x :: r) g = (1, x.2.1 - g, x.2.2) :: r from if_pos h, onn_cons]
    by_cases h2 : n < x.2.1 - g
    · rw [if_pos ⟨rfl, h2⟩, if_pos ⟨h, h2⟩, show curO (x :: r) (g + n) = (1, x.2.1 - (g + n), x.2.2) :: r from if_pos h, h3 h]
      show (1, x.2.1 - g - n, _) :: r = _
      rw [show x.2.1 - g - n = x.2.1 - (g + n) by omega]
    · rw [if_neg (fun h => h2 h.2), if_neg (fun h => h2 h.2)]
  · rw [show curO (x :: r) g = x :: r from if_neg h, onn_cons, if_neg (fun h2 => h h2.1), if_neg (fun h2 => h h2.1)]
theorem curO_zero {l : List Oq} : curO l 0 = l := by
  cases l with
  | nil => rfl
  | cons x r =>
    by_cases h : x.1 = 1
    · rw [show curO (x :: r) 0 = (1, x.2.1 - 0, x.2.2) :: r from if_pos h, Int.sub_zero, ← h]
    · exact if_neg h
theorem curO_nil {l : List Oq} {g : Int} : curO l g = [] ↔ l = [] := by
  cases l with
  | nil => exact ⟨fun _ => rfl, fun _ => rfl⟩
  | cons x r =>
    refine ⟨fun h => ?_, fun h => by cases h⟩
    unfold curO at h
    simp only at h
    split at h <;> cases h

theorem gone_tail (l : List Oq) : Gone l 0 ∨ ∃ x r, l = x :: r ∧ x.1 = 1 ∧ ¬ (0 < x.2.1 ∧ x.2.1 ≤ 2147483648) := by
  by_cases h : ∃ x r, l = x :: r ∧ x.1 = 1 ∧ ¬ (0 < x.2.1 ∧ x.2.1 ≤ 2147483648)
  · exact Or.inr h
  · exact Or.inl ⟨Int.le_refl _, by decide, fun x r e h1 => Decidable.byContradiction fun h2 => h ⟨x, r, e, h1, h2⟩⟩
theorem gone_al {l : List Oq} (h : Al l) : Gone l 0 := ⟨Int.le_refl _, by decide, fun x r e h1 => by
  subst e
  obtain ⟨ha, hb⟩ := h x (by simp)
  rcases ha with ⟨_, a, _⟩ | ⟨a, _⟩
  · exact ⟨by omega, hb⟩
  · omega⟩

set_option maxHeartbeats 2000000 in
theorem cpass_any (w0 : World) (b : Nat) (v : Value) (g n : Int) (l : List Oq) (w : World) (hb0 : Below w0.heap.size w0 w) (h : RowC w b v g) (hOO : OpsAt w0 v l) (hg : Gone l g) (hA : Al l) (hn : 1 ≤ n) (hm : n ≤ lng (hdP (curO l g))) :
    Calls Try.prog 42 #[.pointer (some ⟨b, 0, none⟩), .int .i64 n] w fun e w' => e = .returned (opV (psO (hdP (curO l g)) n)) ∧ But b w w' ∧ ∃ v' l' g', RowC w' b v' g' ∧ OpsAt w0 v' l' ∧ Gone l' g' ∧ Al l' ∧ curO l' g' = onn (curO l g) n := by
  have rl := h.lt
  have hg2 := hg.2.1
  have HAL := hidden hA
  have HO := hidden hOO
  have hO := hOO.later hb0
  have HO1 := hidden (hO.later (bel_alloc (Below.refl _ _) (opO 0 0 [])))
  have HR := hidden (h.later (bel_alloc (Below.refl _ _) (opO 0 0 [])))
  have HB0 := hidden (bel_alloc (Below.refl w.heap.size w) (opO 0 0 []))
  have HC0 := hidden (OpC.new w 0 0 [])
  have HG := hidden hg
  have hne : b ≠ w.heap.size := by omega
  cases l with
  | nil =>
    obtain ⟨ao, cap, rfl⟩ := hO.shape
    clear h hO hg hA hOO hb0
    go_enter Try.func42, Try.ntmps42
    go_wp2_with fail
    refine (cnext_any b _ g [] _ HR.out HO1.out HG.out).mono ?_
    rintro e w1 ⟨rfl, hb1⟩
    rw [show hdP (curO [] g) = (1, 2147483648, []) from rfl]
    unfold opV
    have HB1 := hidden (bel_alloc (HB0.out.trans (hb1.mono HB0.out.size)) (opO 1 2147483648 []))
    have HR2 := hidden ((HR.out.later hb1).later (bel_alloc (Below.refl _ _) (opO 1 2147483648 [])))
    have HC1 := hidden ((HC0.out.later hb1).later (bel_alloc (Below.refl _ _) (opO 1 2147483648 [])))
    have HC2 := hidden (OpC.new w1 1 2147483648 [])
    have hs1 := hb1.size
    rw [World.size_alloc] at hs1
    have hne1 : b ≠ w1.heap.size := by omega
    have hne2 : w.heap.size ≠ w1.heap.size := by omega
    clear HR HB0 HO1 hb1 HC0
    go_wp2_with fail
    refine (cended_any b ao 0 cap g _ HR2.out).mono ?_
    rintro e w2 ⟨rfl, hw⟩
    replace hw : w2 = w1.alloc (opO 1 2147483648 []) := hw
    rw [← hw] at HB1 HR2 HC1 HC2
    have hs2 : w2.heap.size = w1.heap.size + 1 := by rw [hw]; simp
    clear hw
    obtain ⟨a0, a1, a2⟩ := HC1.out.cells
    obtain ⟨d0, d1, d2⟩ := HC2.out.cells
    have af : ∀ i, w2.frozen? ⟨w.heap.size, i, none⟩ = false := HC1.out.thaw
    have df : ∀ i, w2.frozen? ⟨w1.heap.size, i, none⟩ = false := HC2.out.thaw
    go_wp2_with fail
    refine bodyPost_ret (results_opc rfl _ _ w.heap.size 1 n [] rfl (by (with_reducible (repeat (first | exact HC1.out | exact OpC.newAt (by simp) | apply OpC.set0 | apply OpC.set1 | apply OpC.set2 | apply OpC.alloc | apply OpC.other | apply OpC.drewN | apply OpC.drew | assumption | omega))))) rfl ?_
    exact ⟨rfl, But.of_below (by (with_reducible (repeat (first | exact HB1.out | exact Below.refl _ _ | apply bel_alloc | apply bel_put | apply bel_set | apply Below.drew | apply below_drewN | assumption | omega)))), _, [], g, by (with_reducible (repeat (first | exact HR2.out | apply RowC.set0 | apply RowC.set1 | apply RowC.alloc | apply RowC.other | apply RowC.drewN | apply RowC.drew | assumption | omega))), HO.out, HG.out, HAL.out, rfl⟩
  | cons x l =>
    obtain ⟨x1, x2, x3⟩ := x
    obtain ⟨b', o, cap, rfl, hcap, hb', _⟩ := hO.first
    have hbeh := hOO.behind
    have hx3 : x1 = 1 → x3 = [] := fun e => by
      rcases (hA (x1, x2, x3) (by simp)).1 with ⟨_, _, a⟩ | ⟨a, _⟩
      · exact a
      · exfalso; simp only at a; omega
    have hAt : Al l := fun y hy => hA y (by simp [hy])
    have HBEH := hidden hbeh
    have HGT := hidden (gone_al hAt)
    have HAT := hidden hAt
    clear h hO hA hAt hbeh hOO hb0
    by_cases h1 : x1 = 1
    · obtain rfl := hx3 h1
      subst h1
      obtain ⟨g1, _, g3⟩ := hg
      obtain ⟨g4, g5⟩ := g3 (1, x2, []) l rfl rfl
      have hhd : hdP (curO ((1, x2, []) :: l) g) = (1, x2 - g, []) := rfl
      rw [hhd] at hm ⊢
      have hl : lng (1, x2 - g, []) = x2 - g := rfl
      rw [hl] at hm
      simp only at g4 g5
      clear hl
      have HON := hidden (curO_onn (x := (1, x2, [])) (r := l) (g := g) n (fun _ => rfl))
      go_enter Try.func42, Try.ntmps42
      go_wp2_with fail
      refine (cnext_any b _ g _ _ HR.out HO1.out HG.out).mono ?_
      rintro e w1 ⟨rfl, hb1⟩
      rw [hhd]
      unfold opV
      obtain ⟨m, hm0⟩ : ∃ m, x2 - g = m := ⟨_, rfl⟩
      rw [hm0]
      have HM := hidden hm0
      have HB1 := hidden (bel_alloc (HB0.out.trans (hb1.mono HB0.out.size)) (opO 1 m []))
      have HR2 := hidden ((HR.out.later hb1).later (bel_alloc (Below.refl _ _) (opO 1 m [])))
      have HC1 := hidden ((HC0.out.later hb1).later (bel_alloc (Below.refl _ _) (opO 1 m [])))
      have HC2 := hidden (OpC.new w1 1 m [])
      have hs1 := hb1.size
      rw [World.size_alloc] at hs1
      have hne1 : b ≠ w1.heap.size := by omega
      have hne2 : w.heap.size ≠ w1.heap.size := by omega
      clear HR HB0 HO1 hb1 HC0 hhd
      go_wp2_with fail
      refine (cended_any b _ (l.length + 1) cap g _ HR2.out).mono ?_
      rintro e w2 ⟨rfl, hw⟩
      rw [show decide (l.length + 1 = 0) = false by simp]
      replace hw : w2 = w1.alloc (opO 1 m []) := hw
      rw [← hw] at HB1 HR2 HC1 HC2
      have hs2 : w2.heap.size = w1.heap.size + 1 := by rw [hw]; simp
      clear hw
      have HC1 := HC1
      obtain ⟨d0, d1, d2⟩ := HC2.out.cells
      have d0f := HC2.out.thaw 0
      go_wp2_with fail
      refine (clong_any (1, m, []) _).mono ?_
      rintro e w3 ⟨rfl, hb3⟩
      rw [show lng (1, m, []) = m from rfl]
      have HB3 := hidden (HB1.out.trans (hb3.mono HB1.out.size))
      have HR3 := hidden (HR2.out.later hb3)
      have HC3 := hidden (HC1.out.later hb3)
      have HC4 := hidden (HC2.out.later hb3)
      have hs3 := hb3.size
      clear hb3 HB1 HR2 HC1 HC2 d0 d1 d2 d0f
      obtain ⟨a0, a1, a2⟩ := HC3.out.cells
      obtain ⟨d0, d1, d2⟩ := HC4.out.cells
      have af : ∀ i, w3.frozen? ⟨w.heap.size, i, none⟩ = false := HC3.out.thaw
      have df : ∀ i, w3.frozen? ⟨w1.heap.size, i, none⟩ = false := HC4.out.thaw
      have r0 := HR3.out.c0
      have r1 := HR3.out.c1
      have rf : ∀ i, w3.frozen? ⟨b, i, none⟩ = false := HR3.out.thaw
      have hBut : But b w w3 := But.of_below HB3.out
      have HBUT := hidden hBut
      clear hBut
      by_cases hlt : n < m
      · have hd : decide (n < m) = true := by simpa using hlt
        have hsum : wrap64 (g + n) = g + n := by unfold wrap64; omega
        go_wp2_with fail
        refine bodyPost_ret (results_opc rfl _ _ w.heap.size 1 n [] rfl (by (with_reducible (repeat (first | exact HC3.out | exact OpC.newAt (by simp) | apply OpC.set0 | apply OpC.set1 | apply OpC.set2 | apply OpC.alloc | apply OpC.other | apply OpC.drewN | apply OpC.drew | assumption | omega))))) rfl ?_
        refine ⟨rfl, ?_, _, (1, x2, []) :: l, g + n, by (with_reducible (repeat (first | exact HR3.out | apply RowC.set0 | apply RowC.set1 | apply RowC.alloc | apply RowC.other | apply RowC.drewN | apply RowC.drew | assumption | omega))), HO.out, ⟨by omega, by omega, fun y r e _ => by cases e; exact ⟨by show g + n < x2; omega, g5⟩⟩, HAL.out, ?_⟩
        · (with_reducible (repeat (first | exact HBUT.out | apply But.set | apply But.setNew | apply But.alloc | apply But.drewN | assumption | omega)))
        · rw [HON.out, if_pos (by simp; omega)]
      · have hd : decide (n < m) = false := by simpa using hlt
        have hf : ¬ (n < x2 - g) := by omega
        by_cases hc1 : cap = 1
        · subst hc1
          have HQ := hidden (show OpsAt w0 (.slice (some ⟨b', o, none⟩) 0 0) l by have h := HBEH.out; rw [show l.length = 0 by omega, if_pos rfl] at h; exact h)
          go_wp2_with fail
          refine bodyPost_ret (results_opc rfl _ _ w.heap.size 1 n [] rfl (by (with_reducible (repeat (first | exact HC3.out | exact OpC.newAt (by simp) | apply OpC.set0 | apply OpC.set1 | apply OpC.set2 | apply OpC.alloc | apply OpC.other | apply OpC.drewN | apply OpC.drew | assumption | omega))))) rfl ?_
          refine ⟨rfl, ?_, _, l, 0, by (with_reducible (repeat (first | exact HR3.out | apply RowC.set0 | apply RowC.set1 | apply RowC.alloc | apply RowC.other | apply RowC.drewN | apply RowC.drew | assumption | omega))), HQ.out, HGT.out, HAT.out, ?_⟩
          · (with_reducible (repeat (first | exact HBUT.out | apply But.set | apply But.setNew | apply But.alloc | apply But.drewN | assumption | omega)))
          · rw [HON.out, if_neg (by simp; omega), curO_zero]
        · have HQ := hidden (show OpsAt w0 (.slice (some ⟨b', o + 3, none⟩) l.length (cap - 1)) l by have h := HBEH.out; rw [if_neg hc1] at h; exact h)
          go_wp2_with fail
          refine bodyPost_ret (results_opc rfl _ _ w.heap.size 1 n [] rfl (by (with_reducible (repeat (first | exact HC3.out | exact OpC.newAt (by simp) | apply OpC.set0 | apply OpC.set1 | apply OpC.set2 | apply OpC.alloc | apply OpC.other | apply OpC.drewN | apply OpC.drew | assumption | omega))))) rfl ?_
          refine ⟨rfl, ?_, _, l, 0, by (with_reducible (repeat (first | exact HR3.out | apply RowC.set0 | apply RowC.set1 | apply RowC.alloc | apply RowC.other | apply RowC.drewN | apply RowC.drew | assumption | omega))), HQ.out, HGT.out, HAT.out, ?_⟩
          · (with_reducible (repeat (first | exact HBUT.out | apply But.set | apply But.setNew | apply But.alloc | apply But.drewN | assumption | omega)))
          · rw [HON.out, if_neg (by simp; omega), curO_zero]
    · have h1b : (x1 == 1) = false := by simpa using h1
      have hhd : hdP (curO ((x1, x2, x3) :: l) g) = (x1, x2, x3) := by rw [show curO ((x1, x2, x3) :: l) g = (x1, x2, x3) :: l by unfold curO; exact if_neg h1]; rfl
      rw [hhd] at hm ⊢
      have hl : lng (x1, x2, x3) = 1 := if_neg h1
      rw [hl] at hm
      obtain rfl : n = 1 := by omega
      have hps : psO (x1, x2, x3) 1 = (x1, x2, x3) := if_neg h1
      have HL := hidden hl
      have HON := hidden (show onn (curO ((x1, x2, x3) :: l) g) 1 = l by rw [curO_onn (x := (x1, x2, x3)) (r := l) (g := g) 1 (fun e => absurd e h1), if_neg (fun h => h1 h.1)])
      rw [hps]
      clear hl hps hm
      go_enter Try.func42, Try.ntmps42
      go_wp2_with fail
      refine (cnext_any b _ g _ _ HR.out HO1.out HG.out).mono ?_
      rintro e w1 ⟨rfl, hb1⟩
      rw [hhd]
      unfold opV
      have HB1 := hidden (bel_alloc (HB0.out.trans (hb1.mono HB0.out.size)) (opO x1 x2 x3))
      have HR2 := hidden ((HR.out.later hb1).later (bel_alloc (Below.refl _ _) (opO x1 x2 x3)))
      have HC1 := hidden ((HC0.out.later hb1).later (bel_alloc (Below.refl _ _) (opO x1 x2 x3)))
      have HC2 := hidden (OpC.new w1 x1 x2 x3)
      have hs1 := hb1.size
      rw [World.size_alloc] at hs1
      have hne1 : b ≠ w1.heap.size := by omega
      have hne2 : w.heap.size ≠ w1.heap.size := by omega
      clear HR HB0 HO1 hb1 HC0 hhd
      go_wp2_with fail
      refine (cended_any b _ (l.length + 1) cap g _ HR2.out).mono ?_
      rintro e w2 ⟨rfl, hw⟩
      rw [show decide (l.length + 1 = 0) = false by simp]
      replace hw : w2 = w1.alloc (opO x1 x2 x3) := hw
      rw [← hw] at HB1 HR2 HC1 HC2
      have hs2 : w2.heap.size = w1.heap.size + 1 := by rw [hw]; simp
      clear hw
      obtain ⟨d0, d1, d2⟩ := HC2.out.cells
      have d0f := HC2.out.thaw 0
      go_wp2_with fail
      refine (clong_any (x1, x2, x3) _).mono ?_
      rintro e w3 ⟨rfl, hb3⟩
      rw [HL.out]
      have HB3 := hidden (HB1.out.trans (hb3.mono HB1.out.size))
      have HR3 := hidden (HR2.out.later hb3)
      have HC3 := hidden (HC1.out.later hb3)
      have HC4 := hidden (HC2.out.later hb3)
      have hs3 := hb3.size
      clear hb3 HB1 HR2 HC1 HC2 d0 d1 d2 d0f
      obtain ⟨a0, a1, a2⟩ := HC3.out.cells
      obtain ⟨d0, d1, d2⟩ := HC4.out.cells
      have af : ∀ i, w3.frozen? ⟨w.heap.size, i, none⟩ = false := HC3.out.thaw
      have df : ∀ i, w3.frozen? ⟨w1.heap.size, i, none⟩ = false := HC4.out.thaw
      have r0 := HR3.out.c0
      have r1 := HR3.out.c1
      have rf : ∀ i, w3.frozen? ⟨b, i, none⟩ = false := HR3.out.thaw
      have hBut : But b w w3 := But.of_below HB3.out
      have HBUT := hidden hBut
      clear hBut
      by_cases hc1 : cap = 1
      · subst hc1
        have HQ := hidden (show OpsAt w0 (.slice (some ⟨b', o, none⟩) 0 0) l by have h := HBEH.out; rw [show l.length = 0 by omega, if_pos rfl] at h; exact h)
        go_wp2_with fail
        refine bodyPost_ret (results_opc rfl _ _ w.heap.size x1 x2 x3 rfl (by (with_reducible (repeat (first | exact HC3.out | exact OpC.newAt (by simp) | apply OpC.set0 | apply OpC.set1 | apply OpC.set2 | apply OpC.alloc | apply OpC.other | apply OpC.drewN | apply OpC.drew | assumption | omega))))) rfl ?_
        refine ⟨rfl, ?_, _, l, 0, by (with_reducible (repeat (first | exact HR3.out | apply RowC.set0 | apply RowC.set1 | apply RowC.alloc | apply RowC.other | apply RowC.drewN | apply RowC.drew | assumption | omega))), HQ.out, HGT.out, HAT.out, ?_⟩
        · (with_reducible (repeat (first | exact HBUT.out | apply But.set | apply But.setNew | apply But.alloc | apply But.drewN | assumption | omega)))
        · rw [HON.out, curO_zero]
      · have HQ := hidden (show OpsAt w0 (.slice (some ⟨b', o + 3, none⟩) l.length (cap - 1)) l by have h := HBEH.out; rw [if_neg hc1] at h; exact h)
        go_wp2_with fail
        refine bodyPost_ret (results_opc rfl _ _ w.heap.size x1 x2 x3 rfl (by (with_reducible (repeat (first | exact HC3.out | exact OpC.newAt (by simp) | apply OpC.set0 | apply OpC.set1 | apply OpC.set2 | apply OpC.alloc | apply OpC.other | apply OpC.drewN | apply OpC.drew | assumption | omega))))) rfl ?_
        refine ⟨rfl, ?_, _, l, 0, by (with_reducible (repeat (first | exact HR3.out | apply RowC.set0 | apply RowC.set1 | apply RowC.alloc | apply RowC.other | apply RowC.drewN | apply RowC.drew | assumption | omega))), HQ.out, HGT.out, HAT.out, ?_⟩
        · (with_reducible (repeat (first | exact HBUT.out | apply But.set | apply But.setNew | apply But.alloc | apply But.drewN | assumption | omega)))
        · rw [HON.out, curO_zero]

end Go.Proofs.Ytcdjemheokmglab


/-
  Plain laws of steps that are turned back: each Del an Ins, each Ins a Del; that the sides change places, that turned back twice steps are in order, and that what was done is undone; no condition but those that each states.
-/
import Derived.Test.YtcdjemheokmglabAPlain
namespace Go.Proofs.Ytcdjemheokmglab.Ol
open Go.Proofs.Ytcdjemheokmglab.Ln

/-- a step, turned back -/
def fl (x : Oq) : Oq := (if x.1 = 3 then 4 else if x.1 = 4 then 3 else x.1, x.2)
def flp (l : List Oq) : List Oq := l.map fl
/-- what steps are, turned back, in order -/
def flN (l : List Oq) : List Oq := if right l = true then nrm (flp l) else []

theorem fl_fl (x : Oq) : fl (fl x) = x := by
  obtain ⟨k, n, t⟩ := x
  unfold fl
  by_cases h3 : k = 3
  · subst h3; rfl
  · by_cases h4 : k = 4
    · subst h4; rfl
    · simp [h3, h4]
theorem flp_flp (l : List Oq) : flp (flp l) = l := by
  unfold flp
  rw [List.map_map]
  exact (List.map_congr_left fun x _ => fl_fl x).trans (List.map_id l)
theorem flp_app (a b : List Oq) : flp (a ++ b) = flp a ++ flp b := List.map_append
theorem flp_one (x : Oq) : flp [x] = [fl x] := rfl
theorem flp_len (l : List Oq) : (flp l).length = l.length := List.length_map _
theorem fl3 (n : Int) (t : Tx) : fl (3, n, t) = (4, n, t) := rfl
theorem fl4 (n : Int) (t : Tx) : fl (4, n, t) = (3, n, t) := rfl
theorem fl_stay {x : Oq} (h3 : x.1 ≠ 3) (h4 : x.1 ≠ 4) : fl x = x := by
  obtain ⟨k, n, t⟩ := x
  simp only at h3 h4
  simp [fl, h3, h4]
theorem fl_ln (x : Oq) : ln 3 (fl x) = ln 4 x ∧ ln 4 (fl x) = ln 3 x := by
  obtain ⟨k, n, t⟩ := x
  by_cases h3 : k = 3
  · subst h3; rw [fl3]; simp [ln]
  · by_cases h4 : k = 4
    · subst h4; rw [fl4]; simp [ln]
    · rw [fl_stay h3 h4]; simp [ln, h3, h4]
theorem fl_rs (x : Oq) (s : Option Bool) : rs 3 s (fl x) = rs 4 s x ∧ rs 4 s (fl x) = rs 3 s x := by
  obtain ⟨k, n, t⟩ := x
  by_cases h3 : k = 3
  · subst h3; rw [fl3]; simp [rs, on, opn]
  · by_cases h4 : k = 4
    · subst h4; rw [fl4]; simp [rs, on, opn]
    · rw [fl_stay h3 h4]; simp [rs, on, h3, h4]
theorem fl_alone (x : Oq) : alone (fl x) = alone x := by
  obtain ⟨k, n, t⟩ := x
  by_cases h3 : k = 3
  · subst h3; rw [fl3]; simp [alone]
  · by_cases h4 : k = 4
    · subst h4; rw [fl4]; simp [alone]
    · rw [fl_stay h3 h4]
theorem fl_chg (x : Oq) : chg (fl x) = chg x := by
  obtain ⟨k, n, t⟩ := x
  by_cases h3 : k = 3
  · subst h3; rw [fl3]; simp [chg]
  · by_cases h4 : k = 4
    · subst h4; rw [fl4]; simp [chg]
    · rw [fl_stay h3 h4]
theorem flp_tot (l : List Oq) : tot 3 (flp l) = tot 4 l ∧ tot 4 (flp l) = tot 3 l := by
  induction l with
  | nil => exact ⟨rfl, rfl⟩
  | cons x l ih =>
    have h := fl_ln x
    simp only [flp, List.map_cons, tot] at ih ⊢
    rw [h.1, h.2, ih.1, ih.2]
    exact ⟨rfl, rfl⟩
theorem flp_fold (l : List Oq) : ∀ s, (flp l).foldl (rs 3) s = l.foldl (rs 4) s ∧ (flp l).foldl (rs 4) s = l.foldl (rs 3) s := by
  induction l with
  | nil => intro s; exact ⟨rfl, rfl⟩
  | cons x l ih =>
    intro s
    simp only [flp, List.map_cons, List.foldl_cons] at ih ⊢
    rw [(fl_rs x s).1, (fl_rs x s).2]
    exact ⟨(ih _).1, (ih _).2⟩
theorem flp_rsl (l : List Oq) : rsl 3 (flp l) = rsl 4 l ∧ rsl 4 (flp l) = rsl 3 l := flp_fold l _
theorem flp_alone (l : List Oq) : (flp l).all alone = l.all alone := by
  unfold flp
  rw [List.all_map]
  congr 1
  funext x
  exact fl_alone x
theorem right_flp (l : List Oq) : right (flp l) = right l := by
  unfold right
  rw [flp_alone, (flp_rsl l).1, (flp_rsl l).2, (flp_tot l).1, (flp_tot l).2, Bool.eq_iff_iff]
  simp only [Bool.and_eq_true]
  constructor
  · rintro ⟨⟨⟨⟨h1, h2⟩, h3⟩, h4⟩, h5⟩; exact ⟨⟨⟨⟨h1, h3⟩, h2⟩, h5⟩, h4⟩
  · rintro ⟨⟨⟨⟨h1, h2⟩, h3⟩, h4⟩, h5⟩; exact ⟨⟨⟨⟨h1, h3⟩, h2⟩, h5⟩, h4⟩
theorem flp_kn (l : List Oq) : kn 3 (flp l) = kn 4 l ∧ kn 4 (flp l) = kn 3 l := by
  induction l with
  | nil => exact ⟨rfl, rfl⟩
  | cons x l ih =>
    have e : ∀ but, kn but (x :: l) = kn but [x] ++ kn but l := fun but => kn_app but [x] l
    have e2 : ∀ but, kn but (flp (x :: l)) = kn but [fl x] ++ kn but (flp l) := fun but => kn_app but [fl x] (flp l)
    rw [e, e, e2, e2, ih.1, ih.2]
    obtain ⟨k, n, t⟩ := x
    by_cases h3 : k = 3
    · subst h3; rw [fl3]; simp [kn]
    · by_cases h4 : k = 4
      · subst h4; rw [fl4]; simp [kn]
      · rw [fl_stay h3 h4]; by_cases h1 : k = 1 <;> simp [kn, h1, h3, h4]
theorem flp_chs (l : List Oq) : chs (flp l) = chs l := by
  induction l with
  | nil => rfl
  | cons x l ih =>
    have e : chs (x :: l) = chs [x] + chs l := chs_app [x] l
    have e2 : chs (flp (x :: l)) = chs [fl x] + chs (flp l) := chs_app [fl x] (flp l)
    rw [e, e2, ih]
    congr 1
    simp only [chs, List.filter_cons, List.filter_nil, fl_chg]
    split <;> rfl
theorem flp_al0 {l : List Oq} (h : ∀ x ∈ l, al0 x) : ∀ x ∈ flp l, al0 x := by
  intro x hx
  obtain ⟨y, hy, rfl⟩ := List.mem_map.1 hx
  have := h y hy
  obtain ⟨k, n, t⟩ := y
  unfold fl al0 at *
  simp only at *
  by_cases h3 : k = 3
  · subst h3; simp at this ⊢; exact this
  · by_cases h4 : k = 4
    · subst h4; simp at this ⊢; exact this
    · simp only [h3, h4, if_false]; simpa [h3, h4] using this
theorem right_flN {l : List Oq} (h : right l = true) : right (flN l) = true := by
  unfold flN; rw [if_pos h]; exact right_nrm (by rw [right_flp]; exact h)

theorem stay_stay (q : List Oq) (y x : Oq) (hy : y.1 = 1) (hx : x.1 = 1) : stay (stay q y) x = stay q (y.1, y.2.1 + x.2.1, y.2.2) := by
  rcases stay_cases q y with ⟨e, hk⟩ | ⟨o, z, rfl, hz, _, e⟩
  · rw [e]
    have e1 : stay (q ++ [y]) x = q ++ [(y.1, y.2.1 + x.2.1, y.2.2)] := by
      unfold stay; rw [List.getLast?_concat]; simp [hx, hy]
    rw [e1]
    unfold stay
    cases hl : q.getLast? with
    | none => rfl
    | some w =>
      have := hk hy w hl
      simp [this]
  · rw [e]
    have e1 : ∀ (w v : Oq), w.1 = 1 → v.1 = 1 → stay (o ++ [w]) v = o ++ [(w.1, w.2.1 + v.2.1, w.2.2)] := by
      intro w v hw hv
      unfold stay; rw [List.getLast?_concat]; simp [hw, hv]
    rw [e1 (z.1, z.2.1 + y.2.1, z.2.2) x hz hx, e1 z (y.1, y.2.1 + x.2.1, y.2.2) hz hy]
    simp only [Int.add_assoc]
/-- Ins behind steps wait; Dels behind steps go ahead of what waits -/
theorem nst_ins (c : List Oq) : ∀ (s : List Oq × List Oq), (∀ y ∈ c, y.1 = 4) → c.foldl nst s = (s.1, s.2 ++ c) := by
  induction c with
  | nil => intro s _; simp
  | cons y c ih =>
    intro s h
    have hy := h y (by simp)
    rw [List.foldl_cons, ih _ (fun z hz => h z (by simp [hz]))]
    simp [nst, hy]
theorem nst_del (c : List Oq) : ∀ (s : List Oq × List Oq), (∀ y ∈ c, y.1 = 3) → c.foldl nst s = (s.1 ++ c, s.2) := by
  induction c with
  | nil => intro s _; simp
  | cons y c ih =>
    intro s h
    have hy := h y (by simp)
    rw [List.foldl_cons, ih _ (fun z hz => h z (by simp [hz]))]
    simp [nst, hy]
theorem nfo_app (a b : List Oq) : nfo (a ++ b) = b.foldl nst (nfo a) := by simp [nfo, List.foldl_append]
theorem fl_kind3 {c : List Oq} (h : ∀ y ∈ c, y.1 = 4) : ∀ y ∈ flp c, y.1 = 3 := by
  intro y hy
  obtain ⟨x, hx, rfl⟩ := List.mem_map.1 hy
  simp [fl, h x hx]
theorem fl_kind4 {c : List Oq} (h : ∀ y ∈ c, y.1 = 3) : ∀ y ∈ flp c, y.1 = 4 := by
  intro y hy
  obtain ⟨x, hx, rfl⟩ := List.mem_map.1 hy
  simp [fl, h x hx]
/-- how steps and the same turned back stand in order: what is closed, the Dels, the Ins -/
theorem nfo_flp (l : List Oq) : ∃ P D C P' : List Oq, nfo l = (P ++ D, C) ∧ nfo (flp l) = (P' ++ flp C, flp D) ∧ nfo (flp P) = (P', []) ∧ (∀ y ∈ D, y.1 = 3) ∧ (∀ y ∈ C, y.1 = 4) := by
  refine snoc_ind (P := fun l => ∃ P D C P' : List Oq, nfo l = (P ++ D, C) ∧ nfo (flp l) = (P' ++ flp C, flp D) ∧ nfo (flp P) = (P', []) ∧ (∀ y ∈ D, y.1 = 3) ∧ (∀ y ∈ C, y.1 = 4)) ?_ ?_ l
  · exact ⟨[], [], [], [], rfl, rfl, rfl, by simp, by simp⟩
  · rintro l x ⟨P, D, C, P', h1, h2, h3, hD, hC⟩
    rw [nfo_snoc, h1, flp_app, flp_one, nfo_snoc, h2]
    obtain ⟨k, n, t⟩ := x
    by_cases e3 : k = 3
    · subst e3
      refine ⟨P, D ++ [(3, n, t)], C, P', ?_, ?_, h3, ?_, hC⟩
      · simp [nst]
      · rw [fl3, flp_app, flp_one, fl3]; simp [nst]
      · intro y hy
        rcases List.mem_append.1 hy with h | h
        · exact hD y h
        · simp at h; subst h; rfl
    · by_cases e4 : k = 4
      · subst e4
        refine ⟨P, D, C ++ [(4, n, t)], P', ?_, ?_, h3, hD, ?_⟩
        · simp [nst]
        · rw [fl4, flp_app, flp_one, fl4]; simp [nst]
        · intro y hy
          rcases List.mem_append.1 hy with h | h
          · exact hC y h
          · simp at h; subst h; rfl
      · rw [fl_stay (x := (k, n, t)) e3 e4]
        have g1 : nst (P ++ D, C) (k, n, t) = (stay (P ++ D ++ C) (k, n, t), []) := by simp [nst, e3, e4]
        have g2 : nst (P' ++ flp C, flp D) (k, n, t) = (stay (P' ++ flp C ++ flp D) (k, n, t), []) := by simp [nst, e3, e4]
        rw [g1, g2]
        refine ⟨stay (P ++ D ++ C) (k, n, t), [], [], stay (P' ++ flp C ++ flp D) (k, n, t), by simp, by simp [flp], ?_, by simp, by simp⟩
        rcases stay_cases (P ++ D ++ C) (k, n, t) with ⟨e, _⟩ | ⟨o, y, e1, hy1, hx1, e⟩
        · rw [e, flp_app, flp_app, flp_app, flp_one, fl_stay (x := (k, n, t)) e3 e4, nfo_app, nfo_app, nfo_app, h3]
          rw [nst_ins _ _ (fl_kind4 hD), nst_del _ _ (fl_kind3 hC)]
          simp [nst, e3, e4]
        · -- the last of what stands is a Skip: nothing waits
          have hC0 : C = [] := by
            rcases List.eq_nil_or_concat C with h | ⟨c0, z, h⟩
            · exact h
            · exfalso
              rw [h, List.concat_eq_append, ← List.append_assoc] at e1
              have hz := (List.append_inj' e1 rfl).2
              simp only [List.cons.injEq, and_true] at hz
              have := hC z (by rw [h]; simp)
              rw [hz] at this; omega
          subst hC0
          have hD0 : D = [] := by
            rcases List.eq_nil_or_concat D with h | ⟨c0, z, h⟩
            · exact h
            · exfalso
              rw [h, List.concat_eq_append, List.append_nil, ← List.append_assoc] at e1
              have hz := (List.append_inj' e1 rfl).2
              simp only [List.cons.injEq, and_true] at hz
              have := hD z (by rw [h]; simp)
              rw [hz] at this; omega
          subst hD0
          simp only [List.append_nil] at e1 e
          rw [List.append_nil, List.append_nil, e]
          rw [e1, flp_app, flp_one, fl_stay (x := y) (by omega) (by omega), nfo_snoc] at h3
          have g3 : nst (nfo (flp o)) y = (stay ((nfo (flp o)).1 ++ (nfo (flp o)).2) y, []) := by
            unfold nst; rw [if_neg (by omega), if_neg (by omega)]
          rw [g3] at h3
          have h4 := (Prod.mk.inj h3).1
          rw [flp_app, flp_one, fl_stay (x := (y.1, y.2.1 + n, y.2.2)) (by show y.1 ≠ 3; omega) (by show y.1 ≠ 4; omega), nfo_snoc]
          have g4 : nst (nfo (flp o)) (y.1, y.2.1 + n, y.2.2) = (stay ((nfo (flp o)).1 ++ (nfo (flp o)).2) (y.1, y.2.1 + n, y.2.2), []) := by
            unfold nst; rw [if_neg (by show y.1 ≠ 3; omega), if_neg (by show y.1 ≠ 4; omega)]
          rw [g4, ← h4]
          simp only [flp, List.map_nil, List.append_nil]
          rw [stay_stay _ y (k, n, t) hy1 hx1]
/-- steps in order, turned back and in order: what they are, turned back and in order -/
theorem nrm_flp_nrm (l : List Oq) : nrm (flp (nrm l)) = nrm (flp l) := by
  obtain ⟨P, D, C, P', h1, h2, h3, hD, hC⟩ := nfo_flp l
  unfold nrm
  rw [h2, h1, flp_app, flp_app, nfo_app, nfo_app, h3, nst_ins _ _ (fl_kind4 hD), nst_del _ _ (fl_kind3 hC)]
  simp
theorem flN_twice {l : List Oq} (h : right l = true) : flN (flN l) = nrm l := by
  have h2 := right_flN h
  unfold flN at h2 ⊢
  rw [if_pos h] at h2 ⊢
  rw [if_pos h2, nrm_flp_nrm, flp_flp]
theorem nrm_facts {l : List Oq} (h : right l = true) : tot 3 (nrm l) = tot 3 l ∧ tot 4 (nrm l) = tot 4 l ∧ kn 3 (nrm l) = kn 3 l ∧ kn 4 (nrm l) = kn 4 l ∧ chs (nrm l) = chs l := by
  have hk := kept l (right_al0 h)
  exact ⟨hk.t3, hk.t4, hk.k3, hk.k4, hk.ch⟩
theorem flN_facts {l : List Oq} (h : right l = true) : tot 3 (flN l) = tot 4 l ∧ tot 4 (flN l) = tot 3 l ∧ kn 3 (flN l) = kn 4 l ∧ kn 4 (flN l) = kn 3 l := by
  have h2 : right (flp l) = true := by rw [right_flp]; exact h
  have hk := nrm_facts h2
  unfold flN
  rw [if_pos h, hk.1, hk.2.1, hk.2.2.1, hk.2.2.2.1, (flp_tot l).1, (flp_tot l).2, (flp_kn l).1, (flp_kn l).2]
  exact ⟨rfl, rfl, rfl, rfl⟩

/-- what was done is undone, step by step -/
theorem dsl_flp (old : List Tx) (l : List Oq) : (∀ x ∈ l, al0 x) → ∀ out p, dsl old l = some (out, p) → ∀ z, dsl (out ++ z) (flp l) = some (old.take p, out.length) := by
  refine snoc_ind (P := fun l => (∀ x ∈ l, al0 x) → ∀ out p, dsl old l = some (out, p) → ∀ z, dsl (out ++ z) (flp l) = some (old.take p, out.length)) ?_ ?_ l
  · intro _ out p h z
    simp only [dsl, List.foldl_nil, Option.some.injEq, Prod.mk.injEq] at h
    obtain ⟨rfl, rfl⟩ := h
    simp [dsl, flp]
  · intro l x ih hal out p h z
    rw [dsl_snoc] at h
    cases hd : dsl old l with
    | none => rw [hd] at h; cases h
    | some s =>
      obtain ⟨o, q⟩ := s
      rw [hd] at h
      have hal' : ∀ y ∈ l, al0 y := fun y hy => hal y (by simp [hy])
      have ihz := ih hal' o q hd
      have hq := (dn old l hal' o q hd).le
      have hx := hal x (by simp)
      obtain ⟨x1, x2, x3⟩ := x
      simp only [al0] at hx
      rw [flp_app, flp_one]
      by_cases e4 : x1 = 4
      · subst e4
        rw [ds_ins] at h
        simp only [Option.some.injEq, Prod.mk.injEq] at h
        obtain ⟨rfl, rfl⟩ := h
        rw [fl4, List.append_assoc, dsl_snoc, ihz, ds_del (by rw [List.getElem?_append_right (Nat.le_refl _)]; simp)]
        simp
      · by_cases e1 : x1 = 1
        · subst e1
          by_cases hle : (q : Int) + x2 ≤ old.length
          · have hn : x2 = (x2.toNat : Nat) := by omega
            rw [ds_skip x2.toNat hn (by omega)] at h
            simp only [Option.some.injEq, Prod.mk.injEq] at h
            obtain ⟨rfl, rfl⟩ := h
            have hlen : ((old.drop q).take x2.toNat).length = x2.toNat := by rw [List.length_take, List.length_drop]; omega
            rw [fl_stay (x := (1, x2, x3)) (by show (1 : Int) ≠ 3; omega) (by show (1 : Int) ≠ 4; omega), List.append_assoc, dsl_snoc, ihz, ds_skip x2.toNat hn (by rw [List.length_append, List.length_append, hlen]; omega)]
            rw [List.drop_left, List.take_append_of_le_length (l₁ := (old.drop q).take x2.toNat) (by rw [hlen]; exact Nat.le_refl _), List.take_take, Nat.min_self, List.length_append, hlen, List.take_add]
          · rw [ds_skip_no hle] at h; cases h
        · by_cases ho : old[q]? = some x3
          · have hql := (List.getElem?_eq_some_iff.1 ho).1
            have htk : old.take (q + 1) = old.take q ++ [x3] := by rw [List.take_add_one, ho]; rfl
            by_cases e3 : x1 = 3
            · subst e3
              rw [ds_del ho] at h
              simp only [Option.some.injEq, Prod.mk.injEq] at h
              obtain ⟨rfl, rfl⟩ := h
              rw [fl3, dsl_snoc, ihz, ds_ins, htk]
            · obtain rfl : x1 = 2 := by omega
              rw [ds_keep ho] at h
              simp only [Option.some.injEq, Prod.mk.injEq] at h
              obtain ⟨rfl, rfl⟩ := h
              rw [fl_stay (x := (2, x2, x3)) (by show (2 : Int) ≠ 3; omega) (by show (2 : Int) ≠ 4; omega), List.append_assoc, dsl_snoc, ihz, ds_keep (by rw [List.getElem?_append_right (Nat.le_refl _)]; simp), htk]
              simp
          · rw [ds_no e1 e4 ho] at h; cases h
theorem doo_flp {l : List Oq} {old a : List Tx} (h : doo l old = some a) : doo (flp l) a = some old := by
  obtain ⟨hr, hw, out, p, hd, rfl, hwa, hdn⟩ := doo_some h
  unfold doo
  rw [if_pos ⟨by rw [right_flp]; exact hr, hwa⟩, dsl_flp old l (right_al0 hr) out p hd (old.drop p)]
  simp only [List.drop_left, List.take_append_drop]
  rw [if_pos hw]
theorem doo_flN {l : List Oq} {old a : List Tx} (h : doo l old = some a) : doo (flN l) a = some old := by
  have hr := (doo_some h).1
  unfold flN
  rw [if_pos hr, doo_nrm _ _ (by rw [right_flp]; exact hr)]
  exact doo_flp h

end Go.Proofs.Ytcdjemheokmglab.Ol

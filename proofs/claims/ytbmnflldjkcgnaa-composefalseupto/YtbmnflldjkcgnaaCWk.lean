
/-
  Plain laws of two lists of steps, gone through together by their middle: what is told is what they are laid out, one behind the other; what they are in order; no condition but those that each states.
-/
import Derived.Test.YtbmnflldjkcgnaaCEnd
namespace Go.Proofs.Ytbmnflldjkcgnaa.Ol
open Go.Proofs.Ytbmnflldjkcgnaa.Ln

/-- behind so many lines of the middle -/
def onn (l : List Oq) (n : Int) : List Oq :=
  match l with
  | [] => []
  | x :: r => if x.1 = 1 ∧ n < x.2.1 then (1, x.2.1 - n, []) :: r else r
theorem onn_cons (x : Oq) (r : List Oq) (n : Int) : onn (x :: r) n = if x.1 = 1 ∧ n < x.2.1 then (1, x.2.1 - n, []) :: r else r := rfl
theorem onn_nil (n : Int) : onn [] n = [] := rfl
def hdO : List Oq → Oq
  | [] => (1, 1099511627776, [])
  | x :: _ => x
def wkN (x y : Oq) : Int := if x.1 = 1 ∧ y.1 = 1 then min x.2.1 y.2.1 else 1
def wkO (x y : Oq) (n : Int) : List (Oq × Int) :=
  if x.1 = 1 ∧ y.1 = 1 then [((1, n, []), 0)] else if x.1 = 4 ∧ y.1 = 3 then [] else if x.1 = 4 then [(x, 1)] else if y.1 = 3 then [(y, 2)] else if y.1 = 2 then [(y, 0)] else [(x, 0)]
/-- both together: the steps, and whose they are; whether one that comes goes -/
def wk : Nat → Bool → List Oq → List Oq → Option (List (Oq × Int) × Bool)
  | 0, _, _, _ => none
  | f + 1, e, p, q =>
    if (p.isEmpty && q.isEmpty) = true then some ([], false)
    else if (hdO p).1 = 3 then (wk f e p.tail q).map fun r => ((hdO p, 1) :: r.1, r.2)
    else if (hdO q).1 = 4 then (wk f e p q.tail).map fun r => ((hdO q, 2) :: r.1, r.2)
    else if e = true then none
    else if (hdO p).1 ≠ 1 ∧ (hdO q).1 ≠ 1 ∧ (hdO p).2.2 ≠ (hdO q).2.2 then none
    else (wk f (opn (hdO p) || opn (hdO q)) (onn p (wkN (hdO p) (hdO q))) (onn q (wkN (hdO p) (hdO q)))).map fun r => (wkO (hdO p) (hdO q) (wkN (hdO p) (hdO q)) ++ r.1, ((hdO p).1 == 4 && (hdO q).1 == 3) || r.2)
/-- the steps alone -/
def byO (r : List (Oq × Int) × Bool) : List Oq := r.1.map (·.1)

/-- right by themselves, and no Skip too far -/
def Ok (l : List Oq) : Prop := ∀ x ∈ l, al0 x ∧ x.2.1 ≤ 1099511627776
theorem Ok.al {l : List Oq} (h : Ok l) : ∀ x ∈ l, al0 x := fun x hx => (h x hx).1
theorem Ok.tail {l : List Oq} (h : Ok l) : Ok l.tail := fun x hx => h x (List.mem_of_mem_tail hx)
theorem Ok.hd {l : List Oq} (h : Ok l) : al0 (hdO l) ∧ (hdO l).2.1 ≤ 1099511627776 := by
  cases l with
  | nil => exact ⟨Or.inl ⟨rfl, by decide, rfl⟩, by decide⟩
  | cons x l => exact h x (by simp)
theorem Ok.onn {l : List Oq} (h : Ok l) (n : Int) (hn : 1 ≤ n) : Ok (onn l n) := by
  cases l with
  | nil => exact h
  | cons x r =>
    rw [onn_cons]
    split
    · rename_i hx
      intro y hy
      rcases List.mem_cons.1 hy with rfl | hy
      · have := (h x (by simp)).2
        exact ⟨Or.inl ⟨rfl, by show 1 ≤ x.2.1 - n; omega, rfl⟩, by show x.2.1 - n ≤ _; omega⟩
      · exact h y (by simp [hy])
    · exact fun y hy => h y (by simp [hy])
theorem right_ok {l : List Oq} (h : right l = true) : Ok l := fun x hx => by
  have ha := right_al0 h x hx
  refine ⟨ha, ?_⟩
  rcases ha with ⟨e, _⟩ | ⟨_, e, _⟩
  · have := tot_le 3 l x hx
    have h2 := (right_parts h).2.2.2.1
    simp only [ln, if_pos e] at this
    omega
  · omega
/-- a step, as one line -/
def ux (x : Oq) : Ut := if x.1 = 1 then .s else if x.1 = 2 then .k x.2.2 else if x.1 = 3 then .d x.2.2 else .i x.2.2
theorem ux_op (x : Oq) : opU (ux x) = opn x := by
  obtain ⟨k, n, t⟩ := x
  unfold ux opn
  by_cases h1 : k = 1
  · simp [h1, opU]
  · by_cases h2 : k = 2
    · simp [h2, opU]
    · by_cases h3 : k = 3
      · simp [h3, opU]
      · simp [h1, h2, h3, opU]
theorem onn_len (l : List Oq) (n : Int) : (onn l n).length ≤ l.length := by
  cases l with
  | nil => exact Nat.le_refl _
  | cons x r => rw [onn_cons]; split <;> simp
theorem onn_drop {l : List Oq} {n : Int} (hl : l ≠ []) (h : (hdO l).1 ≠ 1 ∨ (hdO l).2.1 ≤ n) : (onn l n).length + 1 = l.length := by
  cases l with
  | nil => exact absurd rfl hl
  | cons x r =>
    rw [onn_cons, if_neg (fun e => by rcases h with h | h; exact h e.1; have := e.2; simp only [hdO] at h; omega)]
    simp
theorem ex1_ne {x : Oq} (h : al0 x) : ∃ u l, ex1 x = u :: l ∧ u = ux x := by
  obtain ⟨k, n, t⟩ := x
  simp only [al0] at h
  rcases h with ⟨rfl, h1, _⟩ | ⟨h, _⟩
  · obtain ⟨m, hm⟩ : ∃ m : Nat, n.toNat = m + 1 := ⟨(n - 1).toNat, by omega⟩
    rw [ex1_s, hm, List.replicate_succ]
    exact ⟨_, _, rfl, rfl⟩
  · rcases h with rfl | rfl | rfl <;> exact ⟨_, [], rfl, rfl⟩
theorem ex_hdU {l : List Oq} (h : Ok l) : hdU (ex l) = ux (hdO l) := by
  cases l with
  | nil => rfl
  | cons x l =>
    obtain ⟨u, r, e, eu⟩ := ex1_ne (h x (by simp)).1
    rw [ex, e]; exact eu
theorem ex_empty {l : List Oq} (h : Ok l) : (ex l).isEmpty = l.isEmpty := by
  cases l with
  | nil => rfl
  | cons x l =>
    obtain ⟨u, r, e, eu⟩ := ex1_ne (h x (by simp)).1
    rw [ex, e]; rfl
theorem ex_isD {l : List Oq} (h : Ok l) : isD (ex l) = decide ((hdO l).1 = 3) := by
  cases l with
  | nil => rfl
  | cons x l =>
    have ha := (h x (by simp)).1
    obtain ⟨u, r, e, eu⟩ := ex1_ne ha
    rw [ex, e, List.cons_append, isD_hd, eu]
    obtain ⟨k, n, t⟩ := x
    simp only [al0] at ha
    show isD [ux (k, n, t)] = decide (k = 3)
    rcases ha with ⟨rfl, _⟩ | ⟨ha, _⟩
    · rfl
    · rcases ha with rfl | rfl | rfl <;> rfl
theorem ex_isI {l : List Oq} (h : Ok l) : isI (ex l) = decide ((hdO l).1 = 4) := by
  cases l with
  | nil => rfl
  | cons x l =>
    have ha := (h x (by simp)).1
    obtain ⟨u, r, e, eu⟩ := ex1_ne ha
    rw [ex, e, List.cons_append, isI_hd, eu]
    obtain ⟨k, n, t⟩ := x
    simp only [al0] at ha
    show isI [ux (k, n, t)] = decide (k = 4)
    rcases ha with ⟨rfl, _⟩ | ⟨ha, _⟩
    · rfl
    · rcases ha with rfl | rfl | rfl <;> rfl
/-- one line of the middle on -/
theorem ex_tail {l : List Oq} (h : Ok l) : (ex l).tail = ex (onn l 1) := by
  cases l with
  | nil => rfl
  | cons x l =>
    have ha := (h x (by simp)).1
    obtain ⟨k, n, t⟩ := x
    simp only [al0] at ha
    rcases ha with ⟨rfl, h1, _⟩ | ⟨hk, _⟩
    · obtain ⟨m, hm⟩ : ∃ m : Nat, n = (m + 1 : Nat) := ⟨(n - 1).toNat, by omega⟩
      subst hm
      rw [ex, ex1_s, Int.toNat_natCast, List.replicate_succ]
      rw [onn_cons]
      by_cases h2 : (1 : Int) < ((m + 1 : Nat) : Int)
      · rw [if_pos ⟨rfl, h2⟩, ex, ex1_s]
        have : (((m + 1 : Nat) : Int) - 1).toNat = m := by omega
        rw [this]; rfl
      · rw [if_neg (fun e => h2 e.2)]
        obtain rfl : m = 0 := by omega
        rfl
    · rw [onn_cons, if_neg (fun e => by have := e.1; simp only at this; omega)]
      rcases hk with rfl | rfl | rfl
      · rw [ex, ex1_k]; rfl
      · rw [ex, ex1_d]; rfl
      · rw [ex, ex1_i]; rfl
/-- some lines of the middle on, that are not known -/
theorem ex_skips {l : List Oq} (h : Ok l) (hl : l ≠ []) (h1 : (hdO l).1 = 1) (n : Nat) (hn : (n : Int) ≤ (hdO l).2.1) : ex l = List.replicate n Ut.s ++ ex (onn l n) := by
  cases l with
  | nil => exact absurd rfl hl
  | cons x l =>
    obtain ⟨k, m, t⟩ := x
    simp only [hdO] at h1 hn
    subst h1
    rw [onn_cons]
    by_cases h2 : (n : Int) < m
    · rw [if_pos ⟨rfl, h2⟩, ex, ex, ex1_s, ex1_s, ← List.append_assoc, List.replicate_append_replicate]
      congr 2
      show m.toNat = n + (m - (n : Int)).toNat
      omega
    · rw [if_neg (fun e => h2 e.2), ex, ex1_s]
      have : m.toNat = n := by omega
      rw [this]
theorem ce_rep (n : Nat) : ∀ (e : Bool) (p q : List Ut), ce e (List.replicate (n + 1) Ut.s ++ p) (List.replicate (n + 1) Ut.s ++ q) = if e then none else (ce false p q).map (List.replicate (n + 1) Ut.s ++ ·) := by
  induction n with
  | zero =>
    intro e p q
    show ce e (Ut.s :: p) (Ut.s :: q) = _
    rw [ce_c e _ _ rfl rfl rfl]; rfl
  | succ n ih =>
    intro e p q
    rw [List.replicate_succ, List.cons_append, List.cons_append, ce_c e _ _ rfl rfl rfl]
    cases e with
    | true => rfl
    | false =>
      show ((ce false (List.replicate (n + 1) Ut.s ++ p) (List.replicate (n + 1) Ut.s ++ q)).map ([Ut.s] ++ ·)) = _
      rw [ih, if_neg (by simp), if_neg (by simp), Option.map_map]; rfl
theorem ce_repL (n : Nat) : ∀ (e : Bool) (q : List Ut), ce e [] (List.replicate (n + 1) Ut.s ++ q) = if e then none else (ce false [] q).map (List.replicate (n + 1) Ut.s ++ ·) := by
  induction n with
  | zero =>
    intro e q
    show ce e [] (Ut.s :: q) = _
    rw [ce_c e _ _ rfl rfl rfl]; rfl
  | succ n ih =>
    intro e q
    rw [List.replicate_succ, List.cons_append, ce_c e _ _ rfl rfl rfl]
    cases e with
    | true => rfl
    | false =>
      show ((ce false [] (List.replicate (n + 1) Ut.s ++ q)).map ([Ut.s] ++ ·)) = _
      rw [ih, if_neg (by simp), if_neg (by simp), Option.map_map]; rfl
theorem ce_repR (n : Nat) : ∀ (e : Bool) (p : List Ut), ce e (List.replicate (n + 1) Ut.s ++ p) [] = if e then none else (ce false p []).map (List.replicate (n + 1) Ut.s ++ ·) := by
  induction n with
  | zero =>
    intro e p
    show ce e (Ut.s :: p) [] = _
    rw [ce_c e _ _ rfl rfl rfl]; rfl
  | succ n ih =>
    intro e p
    rw [List.replicate_succ, List.cons_append, ce_c e _ _ rfl rfl rfl]
    cases e with
    | true => rfl
    | false =>
      show ((ce false (List.replicate (n + 1) Ut.s ++ p) []).map ([Ut.s] ++ ·)) = _
      rw [ih, if_neg (by simp), if_neg (by simp), Option.map_map]; rfl
/-- a line of the middle -/
theorem cb_ux {x y : Oq} (hx : al0 x) (hy : al0 y) (h3 : x.1 ≠ 3) (h4 : y.1 ≠ 4) (hxy : ¬ (x.1 = 1 ∧ y.1 = 1)) : cb (ux x) (ux y) = if x.1 ≠ 1 ∧ y.1 ≠ 1 ∧ x.2.2 ≠ y.2.2 then none else some (ex ((wkO x y 1).map (·.1))) := by
  obtain ⟨k, n, t⟩ := x
  obtain ⟨l, m, u⟩ := y
  simp only [al0] at hx hy h3 h4 hxy ⊢
  have hk : k = 1 ∨ k = 2 ∨ k = 4 := by omega
  have hl : l = 1 ∨ l = 2 ∨ l = 3 := by omega
  rcases hk with rfl | rfl | rfl <;> rcases hl with rfl | rfl | rfl
  · exact absurd ⟨rfl, rfl⟩ hxy
  · simp [ux, cb, wkO, ex, ex1]
  · simp [ux, cb, wkO, ex, ex1]
  · simp [ux, cb, wkO, ex, ex1]
  · by_cases h : t = u
    · subst h; simp [ux, cb, wkO, ex, ex1]
    · simp [ux, cb, h]
  · by_cases h : t = u
    · subst h; simp [ux, cb, wkO, ex, ex1]
    · simp [ux, cb, h]
  · simp [ux, cb, wkO, ex, ex1]
  · by_cases h : t = u
    · subst h; simp [ux, cb, wkO, ex, ex1]
    · simp [ux, cb, h]
  · by_cases h : t = u
    · subst h; simp [ux, cb, wkO, ex]
    · simp [ux, cb, h]
theorem map_by (w : Option (List (Oq × Int) × Bool)) (o : List (Oq × Int)) (b : List (Oq × Int) × Bool → Bool) : (w.map fun r => (o ++ r.1, b r)).map (fun r => ex (byO r)) = (w.map fun r => ex (byO r)).map (ex (o.map (·.1)) ++ ·) := by
  cases w with
  | none => rfl
  | some r => simp [byO, ex_app]
theorem map_by1 (w : Option (List (Oq × Int) × Bool)) (x : Oq) (k : Int) : (w.map fun r => ((x, k) :: r.1, r.2)).map (fun r => ex (byO r)) = (w.map fun r => ex (byO r)).map (ex1 x ++ ·) := by
  cases w with
  | none => rfl
  | some r => simp [byO, ex]
/-- what is told is what they are, laid out -/
theorem wk_ce (f : Nat) : ∀ (e : Bool) (p q : List Oq), Ok p → Ok q → p.length + q.length < f → (wk f e p q).map (fun r => ex (byO r)) = ce e (ex p) (ex q) := by
  induction f with
  | zero => intro e p q _ _ hn; omega
  | succ f ih =>
    intro e p q op oq hn
    rw [wk]
    by_cases h0 : (p.isEmpty && q.isEmpty) = true
    · have e1 : p = [] := by cases p with | nil => rfl | cons => simp at h0
      have e2 : q = [] := by cases q with | nil => rfl | cons => simp at h0
      subst e1 e2
      exact (ce_nil e).symm
    · rw [if_neg h0]
      have h0b : ((ex p).isEmpty && (ex q).isEmpty) = false := by rw [ex_empty op, ex_empty oq]; simpa using h0
      by_cases h3 : (hdO p).1 = 3
      · rw [if_pos h3]
        cases p with
        | nil => cases h3
        | cons x p =>
          obtain ⟨k, n, t⟩ := x
          simp only [hdO] at h3
          subst h3
          simp only [List.tail_cons, hdO]
          rw [map_by1, ex, ex1_d, List.singleton_append, ce_d, ih e p q (fun y hy => op y (by simp [hy])) oq (by simp at hn; omega)]
          rfl
      · rw [if_neg h3]
        have hD : isD (ex p) = false := by rw [ex_isD op]; simpa using h3
        by_cases h4 : (hdO q).1 = 4
        · rw [if_pos h4]
          cases q with
          | nil => cases h4
          | cons x q =>
            obtain ⟨k, n, t⟩ := x
            simp only [hdO] at h4
            subst h4
            simp only [List.tail_cons, hdO]
            rw [map_by1, show ex ((4, n, t) :: q) = Ut.i t :: ex q by rw [ex, ex1_i]; rfl, ex1_i, ce_i e t _ _ hD, ih e p q op (fun y hy => oq y (by simp [hy])) (by simp at hn; omega)]
            rfl
        · rw [if_neg h4]
          have hI : isI (ex q) = false := by rw [ex_isI oq]; simpa using h4
          cases e with
          | true => rw [if_pos rfl, ce_c true _ _ hD hI h0b]; rfl
          | false =>
            rw [if_neg (by simp)]
            obtain ⟨ahp, bhp⟩ := op.hd
            obtain ⟨ahq, bhq⟩ := oq.hd
            by_cases hss : (hdO p).1 = 1 ∧ (hdO q).1 = 1
            · rw [if_neg (fun c => c.1 hss.1)]
              have hN : wkN (hdO p) (hdO q) = min (hdO p).2.1 (hdO q).2.1 := by unfold wkN; rw [if_pos hss]
              have hp1 : 1 ≤ (hdO p).2.1 := by rcases ahp with ⟨_, h, _⟩ | ⟨h, _⟩ <;> omega
              have hq1 : 1 ≤ (hdO q).2.1 := by rcases ahq with ⟨_, h, _⟩ | ⟨h, _⟩ <;> omega
              obtain ⟨n, hn1⟩ : ∃ n : Nat, min (hdO p).2.1 (hdO q).2.1 = ((n + 1 : Nat) : Int) := ⟨(min (hdO p).2.1 (hdO q).2.1 - 1).toNat, by omega⟩
              rw [hN, hn1]
              have hO : wkO (hdO p) (hdO q) ((n + 1 : Nat) : Int) = [((1, ((n + 1 : Nat) : Int), []), 0)] := by unfold wkO; rw [if_pos hss]
              have hop : (opn (hdO p) || opn (hdO q)) = false := by simp [opn, hss.1, hss.2]
              rw [map_by _ (wkO (hdO p) (hdO q) ((n + 1 : Nat) : Int)), hO, hop]
              have hR : ex (List.map (fun x => x.1) [(((1, ((n + 1 : Nat) : Int), []) : Oq), (0 : Int))]) = List.replicate (n + 1) Ut.s := by
                simp only [List.map_cons, List.map_nil]; rw [ex_one, ex1_s, Int.toNat_natCast]
              rw [hR, ih false _ _ (op.onn _ (by omega)) (oq.onn _ (by omega)) ?_]
              · by_cases hpe : p = []
                · subst hpe
                  have hqe : q ≠ [] := fun h => h0 (by rw [h]; rfl)
                  rw [show ex ([] : List Oq) = [] from rfl, ex_skips oq hqe hss.2 (n + 1) (by omega), ce_repL]
                  rfl
                · by_cases hqe : q = []
                  · subst hqe
                    rw [show ex ([] : List Oq) = [] from rfl, ex_skips op hpe hss.1 (n + 1) (by omega), ce_repR]
                    rfl
                  · rw [ex_skips oq hqe hss.2 (n + 1) (by omega), ex_skips op hpe hss.1 (n + 1) (by omega), ce_rep]
                    rfl
              · have l1 := onn_len p ((n + 1 : Nat) : Int)
                have l2 := onn_len q ((n + 1 : Nat) : Int)
                by_cases hle : (hdO p).2.1 ≤ (hdO q).2.1
                · by_cases hpe : p = []
                  · subst hpe
                    have hqe : q ≠ [] := fun h => h0 (by rw [h]; rfl)
                    have hM : (hdO q).2.1 ≤ ((n + 1 : Nat) : Int) := by
                      have h9 : (hdO []).2.1 = 1099511627776 := rfl
                      rw [h9] at hle hn1; omega
                    have h8 := onn_drop hqe (Or.inr hM)
                    have h7 : (onn [] ((n + 1 : Nat) : Int)).length = 0 := rfl
                    have h6 : ([] : List Oq).length = 0 := rfl
                    omega
                  · have := onn_drop hpe (n := ((n + 1 : Nat) : Int)) (Or.inr (by omega))
                    omega
                · by_cases hqe : q = []
                  · subst hqe
                    have h9 : (hdO []).2.1 = 1099511627776 := rfl
                    rw [h9] at hle; omega
                  · have := onn_drop hqe (n := ((n + 1 : Nat) : Int)) (Or.inr (by omega))
                    omega
            · have hN : wkN (hdO p) (hdO q) = 1 := by unfold wkN; rw [if_neg hss]
              rw [hN, ce_c false _ _ hD hI h0b, ex_hdU op, ex_hdU oq, ux_op, ux_op, ex_tail op, ex_tail oq, cb_ux ahp ahq h3 h4 hss]
              by_cases hc : (hdO p).1 ≠ 1 ∧ (hdO q).1 ≠ 1 ∧ (hdO p).2.2 ≠ (hdO q).2.2
              · rw [if_pos hc, if_pos hc]; rfl
              · rw [if_neg hc, if_neg hc, map_by _ (wkO (hdO p) (hdO q) 1), ih _ _ _ (op.onn _ (by omega)) (oq.onn _ (by omega)) ?_]
                · rfl
                · have l1 := onn_len p 1
                  have l2 := onn_len q 1
                  by_cases hp1 : (hdO p).1 = 1
                  · have hq1 : (hdO q).1 ≠ 1 := fun h => hss ⟨hp1, h⟩
                    have hqe : q ≠ [] := fun h => by rw [h] at hq1; exact hq1 rfl
                    have := onn_drop hqe (n := 1) (Or.inl hq1)
                    omega
                  · have hpe : p ≠ [] := fun h => by rw [h] at hp1; exact hp1 rfl
                    have := onn_drop hpe (n := 1) (Or.inl hp1)
                    omega

end Go.Proofs.Ytbmnflldjkcgnaa.Ol

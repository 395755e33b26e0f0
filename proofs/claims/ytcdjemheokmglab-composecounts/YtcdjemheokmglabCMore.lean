
/-
  Plain laws of two lists of steps, one behind the other: nothing, ahead or behind, turns nothing; how many lines and changes they have; no condition but those that each states.
-/
import Derived.Test.YtcdjemheokmglabCEnd
namespace Go.Proofs.Ytcdjemheokmglab.Ol
open Go.Proofs.Ytcdjemheokmglab.Ln

/-- behind so many lines of the middle -/
def onn (l : List Oq) (n : Int) : List Oq :=
  match l with
  | [] => []
  | x :: r => if x.1 = 1 ∧ n < x.2.1 then (1, x.2.1 - n, []) :: r else r
theorem onn_cons (x : Oq) (r : List Oq) (n : Int) : onn (x :: r) n = if x.1 = 1 ∧ n < x.2.1 then (1, x.2.1 - n, []) :: r else r := rfl
theorem onn_nil (n : Int) : onn [] n = [] := rfl
def hdO : List Oq → Oq
  | [] => (1, 1099511627776, [])
  | x :: _ => x
def wkN (x y : Oq) : Int := if x.1 = 1 ∧ y.1 = 1 then min x.2.1 y.2.1 else 1
def wkO (x y : Oq) (n : Int) : List (Oq × Int) :=
  if x.1 = 1 ∧ y.1 = 1 then [((1, n, []), 0)] else if x.1 = 4 ∧ y.1 = 3 then [] else if x.1 = 4 then [(x, 1)] else if y.1 = 3 then [(y, 2)] else if y.1 = 2 then [(y, 0)] else [(x, 0)]
/-- both together: the steps, and whose they are; whether one that comes goes -/
def wk : Nat → Bool → List Oq → List Oq → Option (List (Oq × Int) × Bool)
  | 0, _, _, _ => none
  | f + 1, e, p, q =>
    if (p.isEmpty && q.isEmpty) = true then some ([], false)
    else if (hdO p).1 = 3 then (wk f e p.tail q).map fun r => ((hdO p, 1) :: r.1, r.2)
    else if (hdO q).1 = 4 then (wk f e p q.tail).map fun r => ((hdO q, 2) :: r.1, r.2)
    else if e = true then none
    else if (hdO p).1 ≠ 1 ∧ (hdO q).1 ≠ 1 ∧ (hdO p).2.2 ≠ (hdO q).2.2 then none
    else (wk f (opn (hdO p) || opn (hdO q)) (onn p (wkN (hdO p) (hdO q))) (onn q (wkN (hdO p) (hdO q)))).map fun r => (wkO (hdO p) (hdO q) (wkN (hdO p) (hdO q)) ++ r.1, ((hdO p).1 == 4 && (hdO q).1 == 3) || r.2)
/-- the steps alone -/
def byO (r : List (Oq × Int) × Bool) : List Oq := r.1.map (·.1)

/-- right by themselves, and no Skip too far -/
def Ok (l : List Oq) : Prop := ∀ x ∈ l, al0 x ∧ x.2.1 ≤ 1099511627776
theorem Ok.al {l : List Oq} (h : Ok l) : ∀ x ∈ l, al0 x := fun x hx => (h x hx).1
theorem Ok.tail {l : List Oq} (h : Ok l) : Ok l.tail := fun x hx => h x (List.mem_of_mem_tail hx)
theorem Ok.hd {l : List Oq} (h : Ok l) : al0 (hdO l) ∧ (hdO l).2.1 ≤ 1099511627776 := by
  cases l with
  | nil => exact ⟨Or.inl ⟨rfl, by decide, rfl⟩, by decide⟩
  | cons x l => exact h x (by simp)
theorem Ok.onn {l : List Oq} (h : Ok l) (n : Int) (hn : 1 ≤ n) : Ok (onn l n) := by
  cases l with
  | nil => exact h
  | cons x r =>
    rw [onn_cons]
    split
    · rename_i hx
      intro y hy
      rcases List.mem_cons.1 hy with rfl | hy
      · have := (h x (by simp)).2
        exact ⟨Or.inl ⟨rfl, by show 1 ≤ x.2.1 - n; omega, rfl⟩, by show x.2.1 - n ≤ _; omega⟩
      · exact h y (by simp [hy])
    · exact fun y hy => h y (by simp [hy])
theorem right_ok {l : List Oq} (h : right l = true) : Ok l := fun x hx => by
  have ha := right_al0 h x hx
  refine ⟨ha, ?_⟩
  rcases ha with ⟨e, _⟩ | ⟨_, e, _⟩
  · have := tot_le 3 l x hx
    have h2 := (right_parts h).2.2.2.1
    simp only [ln, if_pos e] at this
    omega
  · omega
/-- a step, as one line -/
def ux (x : Oq) : Ut := if x.1 = 1 then .s else if x.1 = 2 then .k x.2.2 else if x.1 = 3 then .d x.2.2 else .i x.2.2
theorem ux_op (x : Oq) : opU (ux x) = opn x := by
  obtain ⟨k, n, t⟩ := x
  unfold ux opn
  by_cases h1 : k = 1
  · simp [h1, opU]
  · by_cases h2 : k = 2
    · simp [h2, opU]
    · by_cases h3 : k = 3
      · simp [h3, opU]
      · simp [h1, h2, h3, opU]
theorem onn_len (l : List Oq) (n : Int) : (onn l n).length ≤ l.length := by
  cases l with
  | nil => exact Nat.le_refl _
  | cons x r => rw [onn_cons]; split <;> simp
theorem onn_drop {l : List Oq} {n : Int} (hl : l ≠ []) (h : (hdO l).1 ≠ 1 ∨ (hdO l).2.1 ≤ n) : (onn l n).length + 1 = l.length := by
  cases l with
  | nil => exact absurd rfl hl
  | cons x r =>
    rw [onn_cons, if_neg (fun e => by rcases h with h | h; exact h e.1; have := e.2; simp only [hdO] at h; omega)]
    simp
theorem ex1_ne {x : Oq} (h : al0 x) : ∃ u l, ex1 x = u :: l ∧ u = ux x := by
  obtain ⟨k, n, t⟩ := x
  simp only [al0] at h
  rcases h with ⟨rfl, h1, _⟩ | ⟨h, _⟩
  · obtain ⟨m, hm⟩ : ∃ m : Nat, n.toNat = m + 1 := ⟨(n - 1).toNat, by omega⟩
    rw [ex1_s, hm, List.replicate_succ]
    exact ⟨_, _, rfl, rfl⟩
  · rcases h with rfl | rfl | rfl <;> exact ⟨_, [], rfl, rfl⟩
theorem ex_hdU {l : List Oq} (h : Ok l) : hdU (ex l) = ux (hdO l) := by
  cases l with
  | nil => rfl
  | cons x l =>
    obtain ⟨u, r, e, eu⟩ := ex1_ne (h x (by simp)).1
    rw [ex, e]; exact eu
theorem ex_empty {l : List Oq} (h : Ok l) : (ex l).isEmpty = l.isEmpty := by
  cases l with
  | nil => rfl
  | cons x l =>
    obtain ⟨u, r, e, eu⟩ := ex1_ne (h x (by simp)).1
    rw [ex, e]; rfl
theorem ex_isD {l : List Oq} (h : Ok l) : isD (ex l) = decide ((hdO l).1 = 3) := by
  cases l with
  | nil => rfl
  | cons x l =>
    have ha := (h x (by simp)).1
    obtain ⟨u, r, e, eu⟩ := ex1_ne ha
    rw [ex, e, List.cons_append, isD_hd, eu]
    obtain ⟨k, n, t⟩ := x
    simp only [al0] at ha
    show isD [ux (k, n, t)] = decide (k = 3)
    rcases ha with ⟨rfl, _⟩ | ⟨ha, _⟩
    · rfl
    · rcases ha with rfl | rfl | rfl <;> rfl
theorem ex_isI {l : List Oq} (h : Ok l) : isI (ex l) = decide ((hdO l).1 = 4) := by
  cases l with
  | nil => rfl
  | cons x l =>
    have ha := (h x (by simp)).1
    obtain ⟨u, r, e, eu⟩ := ex1_ne ha
    rw [ex, e, List.cons_append, isI_hd, eu]
    obtain ⟨k, n, t⟩ := x
    simp only [al0] at ha
    show isI [ux (k, n, t)] = decide (k = 4)
    rcases ha with ⟨rfl, _⟩ | ⟨ha, _⟩
    · rfl
    · rcases ha with rfl | rfl | rfl <;> rfl
/-- one line of the middle on -/
theorem ex_tail {l : List Oq} (h : Ok l) : (ex l).tail = ex (onn l 1) := by
  cases l with
  | nil => rfl
  | cons x l =>
    have ha := (h x (by simp)).1
    obtain ⟨k, n, t⟩ := x
    simp only [al0] at ha
    rcases ha with ⟨rfl, h1, _⟩ | ⟨hk, _⟩
    · obtain ⟨m, hm⟩ : ∃ m : Nat, n = (m + 1 : Nat) := ⟨(n - 1).toNat, by omega⟩
      subst hm
      rw [ex, ex1_s, Int.toNat_natCast, List.replicate_succ]
      rw [onn_cons]
      by_cases h2 : (1 : Int) < ((m + 1 : Nat) : Int)
      · rw [if_pos ⟨rfl, h2⟩, ex, ex1_s]
        have : (((m + 1 : Nat) : Int) - 1).toNat = m := by omega
        rw [this]; rfl
      · rw [if_neg (fun e => h2 e.2)]
        obtain rfl : m = 0 := by omega
        rfl
    · rw [onn_cons, if_neg (fun e => by have := e.1; simp only at this; omega)]
      rcases hk with rfl | rfl | rfl
      · rw [ex, ex1_k]; rfl
      · rw [ex, ex1_d]; rfl
      · rw [ex, ex1_i]; rfl
/-- some lines of the middle on, that are not known -/
theorem ex_skips {l : List Oq} (h : Ok l) (hl : l ≠ []) (h1 : (hdO l).1 = 1) (n : Nat) (hn : (n : Int) ≤ (hdO l).2.1) : ex l = List.replicate n Ut.s ++ ex (onn l n) := by
  cases l with
  | nil => exact absurd rfl hl
  | cons x l =>
    obtain ⟨k, m, t⟩ := x
    simp only [hdO] at h1 hn
    subst h1
    rw [onn_cons]
    by_cases h2 : (n : Int) < m
    · rw [if_pos ⟨rfl, h2⟩, ex, ex, ex1_s, ex1_s, ← List.append_assoc, List.replicate_append_replicate]
      congr 2
      show m.toNat = n + (m - (n : Int)).toNat
      omega
    · rw [if_neg (fun e => h2 e.2), ex, ex1_s]
      have : m.toNat = n := by omega
      rw [this]
theorem ce_rep (n : Nat) : ∀ (e : Bool) (p q : List Ut), ce e (List.replicate (n + 1) Ut.s ++ p) (List.replicate (n + 1) Ut.s ++ q) = if e then none else (ce false p q).map (List.replicate (n + 1) Ut.s ++ ·) := by
  induction n with
  | zero =>
    intro e p q
    show ce e (Ut.s :: p) (Ut.s :: q) = _
    rw [ce_c e _ _ rfl rfl rfl]; rfl
  | succ n ih =>
    intro e p q
    rw [List.replicate_succ, List.cons_append, List.cons_append, ce_c e _ _ rfl rfl rfl]
    cases e with
    | true => rfl
    | false =>
      show ((ce false (List.replicate (n + 1) Ut.s ++ p) (List.replicate (n + 1) Ut.s ++ q)).map ([Ut.s] ++ ·)) = _
      rw [ih, if_neg (by simp), if_neg (by simp), Option.map_map]; rfl
theorem ce_repL (n : Nat) : ∀ (e : Bool) (q : List Ut), ce e [] (List.replicate (n + 1) Ut.s ++ q) = if e then none else (ce false [] q).map (List.replicate (n + 1) Ut.s ++ ·) := by
  induction n with
  | zero =>
    intro e q
    show ce e [] (Ut.s :: q) = _
    rw [ce_c e _ _ rfl rfl rfl]; rfl
  | succ n ih =>
    intro e q
    rw [List.replicate_succ, List.cons_append, ce_c e _ _ rfl rfl rfl]
    cases e with
    | true => rfl
    | false =>
      show ((ce false [] (List.replicate (n + 1) Ut.s ++ q)).map ([Ut.s] ++ ·)) = _
      rw [ih, if_neg (by simp), if_neg (by simp), Option.map_map]; rfl
theorem ce_repR (n : Nat) : ∀ (e : Bool) (p : List Ut), ce e (List.replicate (n + 1) Ut.s ++ p) [] = if e then none else (ce false p []).map (List.replicate (n + 1) Ut.s ++ ·) := by
  induction n with
  | zero =>
    intro e p
    show ce e (Ut.s :: p) [] = _
    rw [ce_c e _ _ rfl rfl rfl]; rfl
  | succ n ih =>
    intro e p
    rw [List.replicate_succ, List.cons_append, ce_c e _ _ rfl rfl rfl]
    cases e with
    | true => rfl
    | false =>
      show ((ce false (List.replicate (n + 1) Ut.s ++ p) []).map ([Ut.s] ++ ·)) = _
      rw [ih, if_neg (by simp), if_neg (by simp), Option.map_map]; rfl
/-- a line of the middle -/
theorem cb_ux {x y : Oq} (hx : al0 x) (hy : al0 y) (h3 : x.1 ≠ 3) (h4 : y.1 ≠ 4) (hxy : ¬ (x.1 = 1 ∧ y.1 = 1)) : cb (ux x) (ux y) = if x.1 ≠ 1 ∧ y.1 ≠ 1 ∧ x.2.2 ≠ y.2.2 then none else some (ex ((wkO x y 1).map (·.1))) := by
  obtain ⟨k, n, t⟩ := x
  obtain ⟨l, m, u⟩ := y
  simp only [al0] at hx hy h3 h4 hxy ⊢
  have hk : k = 1 ∨ k = 2 ∨ k = 4 := by omega
  have hl : l = 1 ∨ l = 2 ∨ l = 3 := by omega
  rcases hk with rfl | rfl | rfl <;> rcases hl with rfl | rfl | rfl
  · exact absurd ⟨rfl, rfl⟩ hxy
  · simp [ux, cb, wkO, ex, ex1]
  · simp [ux, cb, wkO, ex, ex1]
  · simp [ux, cb, wkO, ex, ex1]
  · by_cases h : t = u
    · subst h; simp [ux, cb, wkO, ex, ex1]
    · simp [ux, cb, h]
  · by_cases h : t = u
    · subst h; simp [ux, cb, wkO, ex, ex1]
    · simp [ux, cb, h]
  · simp [ux, cb, wkO, ex, ex1]
  · by_cases h : t = u
    · subst h; simp [ux, cb, wkO, ex, ex1]
    · simp [ux, cb, h]
  · by_cases h : t = u
    · subst h; simp [ux, cb, wkO, ex]
    · simp [ux, cb, h]
theorem map_by (w : Option (List (Oq × Int) × Bool)) (o : List (Oq × Int)) (b : List (Oq × Int) × Bool → Bool) : (w.map fun r => (o ++ r.1, b r)).map (fun r => ex (byO r)) = (w.map fun r => ex (byO r)).map (ex (o.map (·.1)) ++ ·) := by
  cases w with
  | none => rfl
  | some r => simp [byO, ex_app]
theorem map_by1 (w : Option (List (Oq × Int) × Bool)) (x : Oq) (k : Int) : (w.map fun r => ((x, k) :: r.1, r.2)).map (fun r => ex (byO r)) = (w.map fun r => ex (byO r)).map (ex1 x ++ ·) := by
  cases w with
  | none => rfl
  | some r => simp [byO, ex]
/-- what is told is what they are, laid out -/
theorem wk_ce (f : Nat) : ∀ (e : Bool) (p q : List Oq), Ok p → Ok q → p.length + q.length < f → (wk f e p q).map (fun r => ex (byO r)) = ce e (ex p) (ex q) := by
  induction f with
  | zero => intro e p q _ _ hn; omega
  | succ f ih =>
    intro e p q op oq hn
    rw [wk]
    by_cases h0 : (p.isEmpty && q.isEmpty) = true
    · have e1 : p = [] := by cases p with | nil => rfl | cons => simp at h0
      have e2 : q = [] := by cases q with | nil => rfl | cons => simp at h0
      subst e1 e2
      exact (ce_nil e).symm
    · rw [if_neg h0]
      have h0b : ((ex p).isEmpty && (ex q).isEmpty) = false := by rw [ex_empty op, ex_empty oq]; simpa using h0
      by_cases h3 : (hdO p).1 = 3
      · rw [if_pos h3]
        cases p with
        | nil => cases h3
        | cons x p =>
          obtain ⟨k, n, t⟩ := x
          simp only [hdO] at h3
          subst h3
          simp only [List.tail_cons, hdO]
          rw [map_by1, ex, ex1_d, List.singleton_append, ce_d, ih e p q (fun y hy => op y (by simp [hy])) oq (by simp at hn; omega)]
          rfl
      · rw [if_neg h3]
        have hD : isD (ex p) = false := by rw [ex_isD op]; simpa using h3
        by_cases h4 : (hdO q).1 = 4
        · rw [if_pos h4]
          cases q with
          | nil => cases h4
          | cons x q =>
            obtain ⟨k, n, t⟩ := x
            simp only [hdO] at h4
            subst h4
            simp only [List.tail_cons, hdO]
            rw [map_by1, show ex ((4, n, t) :: q) = Ut.i t :: ex q by rw [ex, ex1_i]; rfl, ex1_i, ce_i e t _ _ hD, ih e p q op (fun y hy => oq y (by simp [hy])) (by simp at hn; omega)]
            rfl
        · rw [if_neg h4]
          have hI : isI (ex q) = false := by rw [ex_isI oq]; simpa using h4
          cases e with
          | true => rw [if_pos rfl, ce_c true _ _ hD hI h0b]; rfl
          | false =>
            rw [if_neg (by simp)]
            obtain ⟨ahp, bhp⟩ := op.hd
            obtain ⟨ahq, bhq⟩ := oq.hd
            by_cases hss : (hdO p).1 = 1 ∧ (hdO q).1 = 1
            · rw [if_neg (fun c => c.1 hss.1)]
              have hN : wkN (hdO p) (hdO q) = min (hdO p).2.1 (hdO q).2.1 := by unfold wkN; rw [if_pos hss]
              have hp1 : 1 ≤ (hdO p).2.1 := by rcases ahp with ⟨_, h, _⟩ | ⟨h, _⟩ <;> omega
              have hq1 : 1 ≤ (hdO q).2.1 := by rcases ahq with ⟨_, h, _⟩ | ⟨h, _⟩ <;> omega
              obtain ⟨n, hn1⟩ : ∃ n : Nat, min (hdO p).2.1 (hdO q).2.1 = ((n + 1 : Nat) : Int) := ⟨(min (hdO p).2.1 (hdO q).2.1 - 1).toNat, by omega⟩
              rw [hN, hn1]
              have hO : wkO (hdO p) (hdO q) ((n + 1 : Nat) : Int) = [((1, ((n + 1 : Nat) : Int), []), 0)] := by unfold wkO; rw [if_pos hss]
              have hop : (opn (hdO p) || opn (hdO q)) = false := by simp [opn, hss.1, hss.2]
              rw [map_by _ (wkO (hdO p) (hdO q) ((n + 1 : Nat) : Int)), hO, hop]
              have hR : ex (List.map (fun x => x.1) [(((1, ((n + 1 : Nat) : Int), []) : Oq), (0 : Int))]) = List.replicate (n + 1) Ut.s := by
                simp only [List.map_cons, List.map_nil]; rw [ex_one, ex1_s, Int.toNat_natCast]
              rw [hR, ih false _ _ (op.onn _ (by omega)) (oq.onn _ (by omega)) ?_]
              · by_cases hpe : p = []
                · subst hpe
                  have hqe : q ≠ [] := fun h => h0 (by rw [h]; rfl)
                  rw [show ex ([] : List Oq) = [] from rfl, ex_skips oq hqe hss.2 (n + 1) (by omega), ce_repL]
                  rfl
                · by_cases hqe : q = []
                  · subst hqe
                    rw [show ex ([] : List Oq) = [] from rfl, ex_skips op hpe hss.1 (n + 1) (by omega), ce_repR]
                    rfl
                  · rw [ex_skips oq hqe hss.2 (n + 1) (by omega), ex_skips op hpe hss.1 (n + 1) (by omega), ce_rep]
                    rfl
              · have l1 := onn_len p ((n + 1 : Nat) : Int)
                have l2 := onn_len q ((n + 1 : Nat) : Int)
                by_cases hle : (hdO p).2.1 ≤ (hdO q).2.1
                · by_cases hpe : p = []
                  · subst hpe
                    have hqe : q ≠ [] := fun h => h0 (by rw [h]; rfl)
                    have hM : (hdO q).2.1 ≤ ((n + 1 : Nat) : Int) := by
                      have h9 : (hdO []).2.1 = 1099511627776 := rfl
                      rw [h9] at hle hn1; omega
                    have h8 := onn_drop hqe (Or.inr hM)
                    have h7 : (onn [] ((n + 1 : Nat) : Int)).length = 0 := rfl
                    have h6 : ([] : List Oq).length = 0 := rfl
                    omega
                  · have := onn_drop hpe (n := ((n + 1 : Nat) : Int)) (Or.inr (by omega))
                    omega
                · by_cases hqe : q = []
                  · subst hqe
                    have h9 : (hdO []).2.1 = 1099511627776 := rfl
                    rw [h9] at hle; omega
                  · have := onn_drop hqe (n := ((n + 1 : Nat) : Int)) (Or.inr (by omega))
                    omega
            · have hN : wkN (hdO p) (hdO q) = 1 := by unfold wkN; rw [if_neg hss]
              rw [hN, ce_c false _ _ hD hI h0b, ex_hdU op, ex_hdU oq, ux_op, ux_op, ex_tail op, ex_tail oq, cb_ux ahp ahq h3 h4 hss]
              by_cases hc : (hdO p).1 ≠ 1 ∧ (hdO q).1 ≠ 1 ∧ (hdO p).2.2 ≠ (hdO q).2.2
              · rw [if_pos hc, if_pos hc]; rfl
              · rw [if_neg hc, if_neg hc, map_by _ (wkO (hdO p) (hdO q) 1), ih _ _ _ (op.onn _ (by omega)) (oq.onn _ (by omega)) ?_]
                · rfl
                · have l1 := onn_len p 1
                  have l2 := onn_len q 1
                  by_cases hp1 : (hdO p).1 = 1
                  · have hq1 : (hdO q).1 ≠ 1 := fun h => hss ⟨hp1, h⟩
                    have hqe : q ≠ [] := fun h => by rw [h] at hq1; exact hq1 rfl
                    have := onn_drop hqe (n := 1) (Or.inl hq1)
                    omega
                  · have hpe : p ≠ [] := fun h => by rw [h] at hp1; exact hp1 rfl
                    have := onn_drop hpe (n := 1) (Or.inl hp1)
                    omega

end Go.Proofs.Ytcdjemheokmglab.Ol

namespace Go.Proofs.Ytcdjemheokmglab.Ol
open Go.Proofs.Ytcdjemheokmglab.Ln

/-- what comes of lines by unit steps -/
def rnu : List Ut → List Tx → Option (List Tx)
  | [], z => some z
  | .s :: _, [] => none
  | .s :: l, t :: z => (rnu l z).map (t :: ·)
  | .k _ :: _, [] => none
  | .k u :: l, t :: z => if u = t then (rnu l z).map (t :: ·) else none
  | .d _ :: _, [] => none
  | .d u :: l, t :: z => if u = t then rnu l z else none
  | .i u :: l, z => (rnu l z).map (u :: ·)
theorem rnu_rep (n : Nat) (l : List Ut) : ∀ z : List Tx, rnu (List.replicate n Ut.s ++ l) z = if n ≤ z.length then (rnu l (z.drop n)).map (z.take n ++ ·) else none := by
  induction n with
  | zero => intro z; simp
  | succ n ih =>
    intro z
    rw [List.replicate_succ, List.cons_append]
    cases z with
    | nil => rfl
    | cons t z =>
      rw [rnu, ih]
      by_cases h : n ≤ z.length
      · rw [if_pos h, if_pos (by simp; omega), Option.map_map]; rfl
      · rw [if_neg h, if_neg (by simp; omega)]; rfl
theorem drop_at {old : List Tx} {p : Nat} {t : Tx} (h : old[p]? = some t) : old.drop p = t :: old.drop (p + 1) := by
  obtain ⟨hp, e⟩ := List.getElem?_eq_some_iff.1 h
  rw [List.drop_eq_getElem_cons hp, e]
theorem rnu_ex (old : List Tx) (l : List Oq) : (∀ x ∈ l, al0 x) → ∀ (o : List Tx) (p : Nat), p ≤ old.length → (l.foldl (ds old) (some (o, p))).map (fun s => s.1 ++ old.drop s.2) = (rnu (ex l) (old.drop p)).map (o ++ ·) := by
  induction l with
  | nil => intro _ o p _; rfl
  | cons x l ih =>
    intro hal o p hp
    have hx := hal x (by simp)
    have ih' := ih (fun y hy => hal y (by simp [hy]))
    obtain ⟨k, n, t⟩ := x
    simp only [al0] at hx
    rw [List.foldl_cons, ex]
    by_cases e4 : k = 4
    · subst e4
      rw [ds_ins, ih' _ _ hp, ex1_i, List.singleton_append, rnu, Option.map_map]
      congr 1; funext z; simp
    · by_cases e1 : k = 1
      · subst e1
        rw [ex1_s, rnu_rep, List.length_drop]
        by_cases hle : (p : Int) + n ≤ old.length
        · have hn : n = (n.toNat : Nat) := by omega
          rw [ds_skip n.toNat hn (by omega), ih' _ _ (by omega), if_pos (by omega), Option.map_map, List.drop_drop]
          congr 1; funext z; simp
        · rw [ds_skip_no hle, ds_none, if_neg (by omega)]; rfl
      · by_cases ho : old[p]? = some t
        · have hpl := (List.getElem?_eq_some_iff.1 ho).1
          by_cases e3 : k = 3
          · subst e3
            rw [ds_del ho, ih' _ _ (by omega), ex1_d, List.singleton_append, drop_at ho, rnu, if_pos rfl]
          · obtain rfl : k = 2 := by omega
            rw [ds_keep ho, ih' _ _ (by omega), ex1_k, List.singleton_append, drop_at ho, rnu, if_pos rfl, Option.map_map]
            congr 1; funext z; simp
        · rw [ds_no e1 e4 ho, ds_none]
          have : rnu (ex1 (k, n, t) ++ ex l) (old.drop p) = none := by
            by_cases hpl : p < old.length
            · obtain ⟨u, hu⟩ : ∃ u, old[p]? = some u := ⟨old[p], List.getElem?_eq_getElem hpl⟩
              have hne : ¬ t = u := fun e => ho (by rw [hu, e])
              by_cases e3 : k = 3
              · subst e3; rw [ex1_d, List.singleton_append, drop_at hu, rnu, if_neg hne]
              · obtain rfl : k = 2 := by omega
                rw [ex1_k, List.singleton_append, drop_at hu, rnu, if_neg hne]
            · rw [List.drop_of_length_le (by omega)]
              by_cases e3 : k = 3
              · subst e3; rw [ex1_d]; rfl
              · obtain rfl : k = 2 := by omega
                rw [ex1_k]; rfl
          rw [this]; rfl
theorem rnu_dsl {old : List Tx} {l : List Oq} (h : ∀ x ∈ l, al0 x) : (dsl old l).map (fun s => s.1 ++ old.drop s.2) = rnu (ex l) old := by
  have := rnu_ex old l h [] 0 (Nat.zero_le _)
  simp only [List.drop_zero, List.nil_append, Option.map_id'] at this
  exact this

/-- what the first row makes of the next line of the middle -/
theorem side_p {p : List Ut} {z m : List Tx} {t : Tx} (hp : isD p = false) (h : rnu p z = some (t :: m)) : (hdU p = .i t ∧ rnu p.tail z = some m) ∨ ((hdU p = .s ∨ hdU p = .k t) ∧ ∃ z', z = t :: z' ∧ rnu p.tail z' = some m) := by
  cases p with
  | nil => simp only [rnu, Option.some.injEq] at h; subst h; exact Or.inr ⟨Or.inl rfl, m, rfl, rfl⟩
  | cons x p =>
    cases x with
    | d u => cases hp
    | i u =>
      simp only [rnu] at h
      obtain ⟨b, h1, h2⟩ := Option.map_eq_some_iff.1 h
      simp only [List.cons.injEq] at h2
      obtain ⟨rfl, rfl⟩ := h2
      exact Or.inl ⟨rfl, h1⟩
    | s =>
      cases z with
      | nil => cases h
      | cons u z =>
        simp only [rnu] at h
        obtain ⟨b, h1, h2⟩ := Option.map_eq_some_iff.1 h
        simp only [List.cons.injEq] at h2
        obtain ⟨rfl, rfl⟩ := h2
        exact Or.inr ⟨Or.inl rfl, z, rfl, h1⟩
    | k v =>
      cases z with
      | nil => cases h
      | cons u z =>
        simp only [rnu] at h
        split at h
        · rename_i e
          subst e
          obtain ⟨b, h1, h2⟩ := Option.map_eq_some_iff.1 h
          simp only [List.cons.injEq] at h2
          obtain ⟨rfl, rfl⟩ := h2
          exact Or.inr ⟨Or.inr rfl, z, rfl, h1⟩
        · cases h
/-- what the second row makes of it -/
theorem side_q {q : List Ut} {m b : List Tx} {t : Tx} (hq : isI q = false) (h : rnu q (t :: m) = some b) : (hdU q = .d t ∧ rnu q.tail m = some b) ∨ ((hdU q = .s ∨ hdU q = .k t) ∧ ∃ b', b = t :: b' ∧ rnu q.tail m = some b') := by
  cases q with
  | nil => simp only [rnu, Option.some.injEq] at h; subst h; exact Or.inr ⟨Or.inl rfl, m, rfl, rfl⟩
  | cons x q =>
    cases x with
    | i u => cases hq
    | d u =>
      simp only [rnu] at h
      split at h
      · rename_i e; subst e; exact Or.inl ⟨rfl, h⟩
      · cases h
    | s =>
      simp only [rnu] at h
      obtain ⟨b', h1, rfl⟩ := Option.map_eq_some_iff.1 h
      exact Or.inr ⟨Or.inl rfl, b', rfl, h1⟩
    | k v =>
      simp only [rnu] at h
      split at h
      · rename_i e
        subst e
        obtain ⟨b', h1, rfl⟩ := Option.map_eq_some_iff.1 h
        exact Or.inr ⟨Or.inr rfl, b', rfl, h1⟩
      · cases h
/-- where something is left, there is a line of the middle -/
theorem mid_ne {p q : List Ut} {z m b : List Tx} (hp : isD p = false) (hq : isI q = false) (h3 : (p.isEmpty && q.isEmpty) = false) (h1 : rnu p z = some m) (h2 : rnu q m = some b) : ∃ t m', m = t :: m' := by
  cases m with
  | cons t m => exact ⟨t, m, rfl⟩
  | nil =>
    exfalso
    cases q with
    | cons y q => cases y <;> first | (simp [isI] at hq; done) | (simp [rnu] at h2; done)
    | nil =>
      cases p with
      | nil => cases h3
      | cons x p =>
        cases x with
        | d u => cases hp
        | i u => simp only [rnu] at h1; obtain ⟨b, _, e⟩ := Option.map_eq_some_iff.1 h1; cases e
        | s =>
          cases z with
          | nil => cases h1
          | cons u z => simp only [rnu] at h1; obtain ⟨b, _, e⟩ := Option.map_eq_some_iff.1 h1; cases e
        | k v =>
          cases z with
          | nil => cases h1
          | cons u z =>
            simp only [rnu] at h1
            split at h1
            · obtain ⟨b, _, e⟩ := Option.map_eq_some_iff.1 h1; cases e
            · cases h1
/-- two rows do, one behind the other, what both do -/
theorem ce_does (n : Nat) : ∀ (e : Bool) (p q : List Ut) (z m b : List Tx), p.length + q.length < n → rnu p z = some m → rnu q m = some b → wh m = true → (e = true → m = []) → ∃ a, ce e p q = some a ∧ rnu a z = some b := by
  induction n with
  | zero => intro e p q z m b hn; omega
  | succ n ih =>
    intro e p q z m b hn h1 h2 hw he
    cases hp : isD p with
    | true =>
      obtain ⟨t, p', rfl⟩ := isD_is hp
      cases z with
      | nil => cases h1
      | cons u z =>
        simp only [rnu] at h1
        split at h1
        · rename_i et
          subst et
          obtain ⟨a, ha, hb⟩ := ih e p' q z m b (by simp at hn; omega) h1 h2 hw he
          refine ⟨.d t :: a, by rw [ce_d, ha]; rfl, ?_⟩
          rw [rnu, if_pos rfl]; exact hb
        · cases h1
    | false =>
      cases hq : isI q with
      | true =>
        obtain ⟨t, q', rfl⟩ := isI_is hq
        simp only [rnu] at h2
        obtain ⟨b', h2', rfl⟩ := Option.map_eq_some_iff.1 h2
        obtain ⟨a, ha, hb⟩ := ih e p q' z m b' (by simp at hn; omega) h1 h2' hw he
        refine ⟨.i t :: a, by rw [ce_i e t p q' hp, ha]; rfl, ?_⟩
        rw [rnu, hb]; rfl
      | false =>
        cases h3 : (p.isEmpty && q.isEmpty) with
        | true =>
          obtain ⟨rfl, rfl⟩ := both_nil h3
          simp only [rnu, Option.some.injEq] at h1 h2
          subst h1 h2
          exact ⟨[], ce_nil e, rfl⟩
        | false =>
          obtain ⟨t, m', rfl⟩ := mid_ne hp hq h3 h1 h2
          have hef : e = false := by cases e with | false => rfl | true => cases he rfl
          subst hef
          have hwm : wh m' = true ∧ (cl t = false → m' = []) := by
            simp only [wh, Bool.and_eq_true, Bool.or_eq_true] at hw
            refine ⟨hw.2, fun hc => ?_⟩
            rcases hw.1.2 with h | h
            · simpa using h
            · rw [hc] at h; cases h
          have hop : ∀ x : Ut, (x = .s ∨ x = .k t ∨ x = .d t ∨ x = .i t) → opU x = true → m' = [] := by
            intro x hx ho
            rcases hx with rfl | rfl | rfl | rfl
            · cases ho
            all_goals exact hwm.2 (by simpa [opU] using ho)
          have hlen := both_tail h3 hn
          have hsq := side_q hq h2
          have hsp := side_p hp h1
          have hce : ∀ o : List Ut, cb (hdU p) (hdU q) = some o → ∀ a', ce (opU (hdU p) || opU (hdU q)) p.tail q.tail = some a' → ce false p q = some (o ++ a') := by
            intro o ho a' ha'
            rw [ce_c false p q hp hq h3, if_neg (by simp), ho, Option.bind_some, ha']; rfl
          have hfl : (opU (hdU p) || opU (hdU q)) = true → m' = [] := by
            intro h
            rw [Bool.or_eq_true] at h
            rcases h with h | h
            · refine hop _ ?_ h
              rcases hsp with ⟨e, _⟩ | ⟨e | e, _⟩
              · exact Or.inr (Or.inr (Or.inr e))
              · exact Or.inl e
              · exact Or.inr (Or.inl e)
            · refine hop _ ?_ h
              rcases hsq with ⟨e, _⟩ | ⟨e | e, _⟩
              · exact Or.inr (Or.inr (Or.inl e))
              · exact Or.inl e
              · exact Or.inr (Or.inl e)
          rcases hsp with ⟨ex, hp'⟩ | ⟨ex, z', rfl, hp'⟩
          · rcases hsq with ⟨ey, hq'⟩ | ⟨ey, b', rfl, hq'⟩
            · obtain ⟨a, ha, hb⟩ := ih _ p.tail q.tail z m' b hlen hp' hq' hwm.1 hfl
              exact ⟨a, hce [] (by rw [ex, ey, cb, if_pos rfl]) a ha, hb⟩
            · obtain ⟨a, ha, hb⟩ := ih _ p.tail q.tail z m' b' hlen hp' hq' hwm.1 hfl
              refine ⟨[.i t] ++ a, hce [.i t] (by rcases ey with ey | ey <;> rw [ex, ey, cb]; rw [if_pos rfl]) a ha, ?_⟩
              rw [List.singleton_append, rnu, hb]; rfl
          · rcases hsq with ⟨ey, hq'⟩ | ⟨ey, b', rfl, hq'⟩
            · obtain ⟨a, ha, hb⟩ := ih _ p.tail q.tail z' m' b hlen hp' hq' hwm.1 hfl
              refine ⟨[.d t] ++ a, hce [.d t] (by rcases ex with ex | ex <;> rw [ex, ey, cb]; rw [if_pos rfl]) a ha, ?_⟩
              rw [List.singleton_append, rnu, if_pos rfl]; exact hb
            · obtain ⟨a, ha, hb⟩ := ih _ p.tail q.tail z' m' b' hlen hp' hq' hwm.1 hfl
              by_cases hss : hdU p = .s ∧ hdU q = .s
              · refine ⟨[.s] ++ a, hce [.s] (by rw [hss.1, hss.2, cb]) a ha, ?_⟩
                rw [List.singleton_append, rnu, hb]; rfl
              · refine ⟨[.k t] ++ a, hce [.k t] ?_ a ha, ?_⟩
                · rcases ex with ex | ex <;> rcases ey with ey | ey
                  · exact absurd ⟨ex, ey⟩ hss
                  · rw [ex, ey, cb]
                  · rw [ex, ey, cb]
                  · rw [ex, ey, cb, if_pos rfl]
                · rw [List.singleton_append, rnu, if_pos rfl, hb]; rfl

end Go.Proofs.Ytcdjemheokmglab.Ol

namespace Go.Proofs.Ytcdjemheokmglab.Ol
open Go.Proofs.Ytcdjemheokmglab.Ln

/-- two lists of steps, one behind the other -/
def thn (p q : List Oq) : Option (List Oq) :=
  if right p = true ∧ right q = true then
    match wk (p.length + q.length + 1) false p q with
    | none => none
    | some r => if right (nrm (byO r)) = true then some (nrm (byO r)) else none
  else none

theorem wkO_al {x y : Oq} (hx : al0 x) (hy : al0 y) : ∀ z ∈ wkO x y (wkN x y), al0 z.1 := by
  unfold wkO wkN
  intro z hz
  split at hz
  · rename_i h
    simp only [List.mem_cons, List.not_mem_nil, or_false] at hz
    subst hz
    refine Or.inl ⟨rfl, ?_, rfl⟩
    show 1 ≤ min x.2.1 y.2.1
    have h1 : 1 ≤ x.2.1 := by rcases hx with ⟨_, h, _⟩ | ⟨h2, _⟩ <;> omega
    have h2 : 1 ≤ y.2.1 := by rcases hy with ⟨_, h, _⟩ | ⟨h2, _⟩ <;> omega
    omega
  · split at hz
    · cases hz
    · split at hz
      · simp only [List.mem_cons, List.not_mem_nil, or_false] at hz; subst hz; exact hx
      · split at hz
        · simp only [List.mem_cons, List.not_mem_nil, or_false] at hz; subst hz; exact hy
        · split at hz
          · simp only [List.mem_cons, List.not_mem_nil, or_false] at hz; subst hz; exact hy
          · simp only [List.mem_cons, List.not_mem_nil, or_false] at hz; subst hz; exact hx
theorem wkN_pos {x y : Oq} (hx : al0 x) (hy : al0 y) : 1 ≤ wkN x y := by
  unfold wkN
  split
  · have h1 : 1 ≤ x.2.1 := by rcases hx with ⟨_, h, _⟩ | ⟨h2, _⟩ <;> omega
    have h2 : 1 ≤ y.2.1 := by rcases hy with ⟨_, h, _⟩ | ⟨h2, _⟩ <;> omega
    omega
  · omega
theorem wk_al (f : Nat) : ∀ (e : Bool) (p q : List Oq) (r : List (Oq × Int) × Bool), Ok p → Ok q → wk f e p q = some r → ∀ z ∈ r.1, al0 z.1 := by
  induction f with
  | zero => intro e p q r _ _ h; cases h
  | succ f ih =>
    intro e p q r op oq h
    rw [wk] at h
    split at h
    · cases h; intro z hz; cases hz
    · split at h
      · obtain ⟨r', h1, rfl⟩ := Option.map_eq_some_iff.1 h
        intro z hz
        rcases List.mem_cons.1 hz with rfl | hz
        · exact op.hd.1
        · exact ih e _ _ r' op.tail oq h1 z hz
      · split at h
        · obtain ⟨r', h1, rfl⟩ := Option.map_eq_some_iff.1 h
          intro z hz
          rcases List.mem_cons.1 hz with rfl | hz
          · exact oq.hd.1
          · exact ih e _ _ r' op oq.tail h1 z hz
        · split at h
          · cases h
          · split at h
            · cases h
            · obtain ⟨r', h1, rfl⟩ := Option.map_eq_some_iff.1 h
              have hN := wkN_pos op.hd.1 oq.hd.1
              intro z hz
              rcases List.mem_append.1 hz with hz | hz
              · exact wkO_al op.hd.1 oq.hd.1 z hz
              · exact ih _ _ _ r' (op.onn _ hN) (oq.onn _ hN) h1 z hz
theorem byO_al {f : Nat} {e : Bool} {p q : List Oq} {r : List (Oq × Int) × Bool} (op : Ok p) (oq : Ok q) (h : wk f e p q = some r) : ∀ x ∈ byO r, al0 x := by
  intro x hx
  obtain ⟨z, hz, rfl⟩ := List.mem_map.1 hx
  exact wk_al f e p q r op oq h z hz

/-- when steps in order are right -/
theorem right_nrm_iff {l : List Oq} (h : ∀ x ∈ l, al0 x) : right (nrm l) = true ↔ (rsl 3 l).isSome = true ∧ (rsl 4 l).isSome = true ∧ tot 3 l ≤ 2147483648 ∧ tot 4 l ≤ 2147483648 := by
  have hk := kept l h
  constructor
  · intro hr
    obtain ⟨_, h2, h3, h4, h5⟩ := right_parts hr
    have e3 : rsl 3 (nrm l) = rsl 3 l := hk.r3
    have e4 : rsl 4 (nrm l) = rsl 4 l := hk.r4
    have t3 : tot 3 (nrm l) = tot 3 l := hk.t3
    have t4 : tot 4 (nrm l) = tot 4 l := hk.t4
    rw [e3] at h2; rw [e4] at h3; rw [t3] at h4; rw [t4] at h5
    exact ⟨h2, h3, h4, h5⟩
  · rintro ⟨h2, h3, h4, h5⟩
    unfold right
    simp only [Bool.and_eq_true, decide_eq_true_eq, List.all_eq_true]
    have e3 : rsl 3 (nrm l) = rsl 3 l := hk.r3
    have e4 : rsl 4 (nrm l) = rsl 4 l := hk.r4
    have t3 : tot 3 (nrm l) = tot 3 l := hk.t3
    have t4 : tot 4 (nrm l) = tot 4 l := hk.t4
    rw [e3, e4, t3, t4]
    refine ⟨⟨⟨⟨fun x hx => ?_, h2⟩, h3⟩, h4⟩, h5⟩
    have ha := nrm_al0 h x hx
    refine alone_of ha ?_
    rcases ha with ⟨e, e2, _⟩ | ⟨_, e, _⟩
    · have := tot_le 3 _ x hx
      rw [t3] at this
      simp only [ln, if_pos e] at this
      omega
    · omega
theorem right_nrm_flp {l : List Oq} (h : ∀ x ∈ l, al0 x) : right (nrm (flp l)) = right (nrm l) := by
  have h1 := right_nrm_iff h
  have h2 := right_nrm_iff (flp_al0 h)
  rw [(flp_rsl l).1, (flp_rsl l).2, (flp_tot l).1, (flp_tot l).2] at h2
  rw [Bool.eq_iff_iff, h1, h2]
  constructor
  · rintro ⟨a, b, c, d⟩; exact ⟨b, a, d, c⟩
  · rintro ⟨a, b, c, d⟩; exact ⟨b, a, d, c⟩

/-- what two are, laid out -/
theorem thn_some {p q l : List Oq} (h : thn p q = some l) : right p = true ∧ right q = true ∧ right l = true ∧ nrm l = l ∧ ∃ r, wk (p.length + q.length + 1) false p q = some r ∧ l = nrm (byO r) ∧ (∀ x ∈ byO r, al0 x) ∧ ce false (ex p) (ex q) = some (ex (byO r)) ∧ lin (ex l) = lin (ex (byO r)) := by
  unfold thn at h
  split at h
  · rename_i hr
    cases hw : wk (p.length + q.length + 1) false p q with
    | none => rw [hw] at h; cases h
    | some r =>
      rw [hw] at h
      simp only at h
      split at h
      · rename_i hrn
        cases h
        have ha := byO_al (right_ok hr.1) (right_ok hr.2) hw
        have hc := wk_ce (p.length + q.length + 1) false p q (right_ok hr.1) (right_ok hr.2) (Nat.lt_succ_self _)
        rw [hw] at hc
        exact ⟨hr.1, hr.2, hrn, nrm_nrm _, r, rfl, rfl, ha, hc.symm, lin_nrm ha⟩
      · cases h
  · cases h
/-- of three it is one which two are put together first -/
theorem thn_three {p q r a b x y : List Oq} (h1 : thn p q = some a) (h2 : thn q r = some b) (h3 : thn a r = some x) (h4 : thn p b = some y) : x = y := by
  obtain ⟨_, _, _, _, r1, _, _, _, c1, l1⟩ := thn_some h1
  obtain ⟨_, _, _, _, r2, _, _, _, c2, l2⟩ := thn_some h2
  obtain ⟨_, _, rx, nx, r3, _, ex3, al3, c3, l3⟩ := thn_some h3
  obtain ⟨_, _, ry, ny, r4, _, ex4, al4, c4, l4⟩ := thn_some h4
  have u1 := ce_cu _ _ _ _ _ (Nat.lt_succ_self _) c1
  have u2 := ce_cu _ _ _ _ _ (Nat.lt_succ_self _) c2
  have u3 := ce_cu _ _ _ _ _ (Nat.lt_succ_self _) c3
  have u4 := ce_cu _ _ _ _ _ (Nat.lt_succ_self _) c4
  rw [ex3, ex4]
  exact nrm_same al3 al4 (cu_three u1 l1 u3 u2 l2 u4)

theorem ex_flp (l : List Oq) (h : ∀ x ∈ l, al0 x) : ex (flp l) = fu (ex l) := by
  induction l with
  | nil => rfl
  | cons x l ih =>
    have hx := h x (by simp)
    have ih' := ih (fun y hy => h y (by simp [hy]))
    obtain ⟨k, n, t⟩ := x
    simp only [al0] at hx
    show ex (fl (k, n, t) :: flp l) = _
    rw [ex, ex, ih']
    unfold fu
    rw [List.map_append]
    congr 1
    rcases hx with ⟨rfl, _⟩ | ⟨hk, _⟩
    · rw [fl_stay (x := (1, n, t)) (by show (1 : Int) ≠ 3; decide) (by show (1 : Int) ≠ 4; decide), ex1_s]; simp [fu1]
    · rcases hk with rfl | rfl | rfl
      · rw [fl_stay (x := (2, n, t)) (by show (2 : Int) ≠ 3; decide) (by show (2 : Int) ≠ 4; decide), ex1_k]; rfl
      · rw [fl3, ex1_i, ex1_d]; rfl
      · rw [fl4, ex1_i, ex1_d]; rfl
theorem lin_flN {l : List Oq} (h : right l = true) : lin (ex (flN l)) = lin (fu (ex l)) := by
  unfold flN
  rw [if_pos h, lin_nrm (flp_al0 (right_al0 h)), ex_flp l (right_al0 h)]
/-- turned back they are the second turned back, and then the first -/
theorem thn_flip {p q : List Oq} (hp : right p = true) (hq : right q = true) : thn (flN q) (flN p) = (thn p q).map flN := by
  have op := right_ok hp
  have oq := right_ok hq
  have rp := right_flN hp
  have rq := right_flN hq
  have fp := right_ok rp
  have fq := right_ok rq
  have c1 := wk_ce (p.length + q.length + 1) false p q op oq (Nat.lt_succ_self _)
  have c2 := wk_ce ((flN q).length + (flN p).length + 1) false (flN q) (flN p) fq fp (Nat.lt_succ_self _)
  have hE : Eqv (ce false (ex (flN q)) (ex (flN p))) ((ce false (ex p) (ex q)).map fu) :=
    (ce_eqv (lin_flN hq) (lin_flN hp)).trans (ce_fu _ false (ex p) (ex q) (Nat.lt_succ_self _))
  unfold thn
  rw [if_pos ⟨rq, rp⟩, if_pos ⟨hp, hq⟩]
  cases hw : wk (p.length + q.length + 1) false p q with
  | none =>
    rw [hw] at c1
    rw [← c1] at hE
    cases hw2 : wk ((flN q).length + (flN p).length + 1) false (flN q) (flN p) with
    | none => rfl
    | some r2 => rw [hw2] at c2; rw [← c2] at hE; cases hE
  | some r =>
    rw [hw] at c1
    rw [← c1] at hE
    cases hw2 : wk ((flN q).length + (flN p).length + 1) false (flN q) (flN p) with
    | none => rw [hw2] at c2; rw [← c2] at hE; cases hE
    | some r2 =>
      rw [hw2] at c2
      rw [← c2] at hE
      have ha := byO_al op oq hw
      have ha2 := byO_al fq fp hw2
      have hl : lin (ex (byO r2)) = lin (ex (flp (byO r))) := by
        rw [ex_flp _ ha]
        exact Eqv.some_iff.1 hE
      have hn := nrm_same ha2 (flp_al0 ha) hl
      simp only
      rw [hn, right_nrm_flp ha]
      by_cases hr : right (nrm (byO r)) = true
      · rw [if_pos hr, if_pos hr]
        simp only [Option.map_some, flN]
        rw [if_pos hr, nrm_flp_nrm]
      · rw [if_neg hr, if_neg hr]; rfl

/-- the old side of steps that are done to whole lines -/
theorem wh_last {old : List Tx} {p : Nat} {t : Tx} (hw : wh old = true) (h : old[p]? = some t) (hc : cl t = false) : p + 1 = old.length := by
  induction old generalizing p with
  | nil => simp at h
  | cons u old ih =>
    simp only [wh, Bool.and_eq_true, Bool.or_eq_true] at hw
    cases p with
    | zero =>
      simp only [List.getElem?_cons_zero, Option.some.injEq] at h
      subst h
      rcases hw.1.2 with h2 | h2
      · simp at h2; subst h2; rfl
      · rw [hc] at h2; cases h2
    | succ p =>
      have := ih hw.2 (by simpa using h)
      simp; omega
theorem rsl3_of (old : List Tx) (l : List Oq) (hw : wh old = true) : (∀ x ∈ l, al0 x) → ∀ out p, dsl old l = some (out, p) → ∃ f, rsl 3 l = some f ∧ (f = true → p = old.length) := by
  refine snoc_ind (P := fun l => (∀ x ∈ l, al0 x) → ∀ out p, dsl old l = some (out, p) → ∃ f, rsl 3 l = some f ∧ (f = true → p = old.length)) ?_ ?_ l
  · intro _ out p _
    exact ⟨false, rfl, fun h => by cases h⟩
  · intro l x ih hal out p h
    rw [dsl_snoc] at h
    cases hd : dsl old l with
    | none => rw [hd] at h; cases h
    | some s =>
      obtain ⟨o, q⟩ := s
      rw [hd] at h
      obtain ⟨f, hf, hfe⟩ := ih (fun y hy => hal y (by simp [hy])) o q hd
      have hx := hal x (by simp)
      rw [rsl_snoc, hf]
      obtain ⟨k, n, t⟩ := x
      simp only [al0] at hx
      by_cases e4 : k = 4
      · subst e4
        rw [ds_ins] at h
        simp only [Option.some.injEq, Prod.mk.injEq] at h
        obtain ⟨rfl, rfl⟩ := h
        exact ⟨f, by simp [rs, on], hfe⟩
      · by_cases e1 : k = 1
        · subst e1
          by_cases hle : (q : Int) + n ≤ old.length
          · have hn : n = (n.toNat : Nat) := by omega
            rw [ds_skip n.toNat hn (by omega)] at h
            simp only [Option.some.injEq, Prod.mk.injEq] at h
            obtain ⟨rfl, rfl⟩ := h
            have hff : f = false := by
              cases f with
              | false => rfl
              | true => have := hfe rfl; omega
            subst hff
            exact ⟨false, by simp [rs, on, opn], fun h => by cases h⟩
          · rw [ds_skip_no hle] at h; cases h
        · by_cases ho : old[q]? = some t
          · have hql := (List.getElem?_eq_some_iff.1 ho).1
            have hff : f = false := by
              cases f with
              | false => rfl
              | true => have := hfe rfl; omega
            subst hff
            have hp : p = q + 1 := by
              by_cases e3 : k = 3
              · subst e3; rw [ds_del ho] at h; simp only [Option.some.injEq, Prod.mk.injEq] at h; exact h.2.symm
              · obtain rfl : k = 2 := by omega
                rw [ds_keep ho] at h; simp only [Option.some.injEq, Prod.mk.injEq] at h; exact h.2.symm
            refine ⟨!cl t, ?_, fun hc => ?_⟩
            · have hk : k = 2 ∨ k = 3 := by omega
              rcases hk with rfl | rfl <;> simp [rs, on, opn]
            · rw [hp]; exact wh_last hw ho (by simpa using hc)
          · rw [ds_no e1 e4 ho] at h; cases h
/-- steps that are done to whole lines, and leave whole lines, are right, in order -/
theorem right_of_dsl {l : List Oq} {old out : List Tx} {p : Nat} (hal : ∀ x ∈ l, al0 x) (hw : wh old = true) (hd : dsl old l = some (out, p)) (hw2 : wh (out ++ old.drop p) = true) (hl : old.length ≤ 2147483648) (hl2 : (out ++ old.drop p).length ≤ 2147483648) : right (nrm l) = true := by
  have h := dn old l hal out p hd
  obtain ⟨f, hf, _⟩ := rsl3_of old l hw hal out p hd
  obtain ⟨f2, hf2, _⟩ := rsl3_of (out ++ old.drop p) (flp l) hw2 (flp_al0 hal) _ _ (dsl_flp old l hal out p hd (old.drop p))
  rw [(flp_rsl l).1] at hf2
  rw [right_nrm_iff hal, hf, hf2]
  have h3 := h.o3
  have h4 := h.o4
  have h5 := h.le
  rw [List.length_append] at hl2
  exact ⟨rfl, rfl, by omega, by omega⟩
/-- what two are does what both do -/
theorem thn_does {p q : List Oq} {old a b : List Tx} (h1 : doo p old = some a) (h2 : doo q a = some b) (hl : old.length ≤ 2147483648) (hl2 : b.length ≤ 2147483648) : ∃ l, thn p q = some l ∧ doo l old = some b := by
  obtain ⟨rp, wo, o1, p1, d1, e1, wa, n1⟩ := doo_some h1
  obtain ⟨rq, _, o2, p2, d2, e2, wb, n2⟩ := doo_some h2
  have op := right_ok rp
  have oq := right_ok rq
  have u1 : rnu (ex p) old = some a := by rw [← rnu_dsl (right_al0 rp), d1, e1]; rfl
  have u2 : rnu (ex q) a = some b := by rw [← rnu_dsl (right_al0 rq), d2, e2]; rfl
  obtain ⟨u, hu, hb⟩ := ce_does _ false (ex p) (ex q) old a b (Nat.lt_succ_self _) u1 u2 wa (fun h => by cases h)
  have c1 := wk_ce (p.length + q.length + 1) false p q op oq (Nat.lt_succ_self _)
  rw [hu] at c1
  obtain ⟨r, hw, rfl⟩ := Option.map_eq_some_iff.1 c1
  have ha := byO_al op oq hw
  rw [← rnu_dsl ha] at hb
  obtain ⟨s, hd, hs⟩ := Option.map_eq_some_iff.1 hb
  obtain ⟨out, pp⟩ := s
  simp only at hs
  have hr := right_of_dsl ha wo hd (by rw [hs]; exact wb) hl (by rw [hs]; exact hl2)
  refine ⟨nrm (byO r), ?_, ?_⟩
  · unfold thn
    rw [if_pos ⟨rp, rq⟩, hw]
    simp only
    rw [if_pos hr]
  · have hdn : dsl old (nrm (byO r)) = some (out, pp) := (dsl_nfo old (byO r) ha).trans hd
    unfold doo
    rw [if_pos ⟨hr, wo⟩, hdn]
    simp only
    rw [hs, if_pos wb]

end Go.Proofs.Ytcdjemheokmglab.Ol

namespace Go.Proofs.Ytcdjemheokmglab.Ol
open Go.Proofs.Ytcdjemheokmglab.Ln

/-- behind steps whose new side has nothing behind an open line nothing stands in the way -/
theorem ce_right (l : List Oq) : Ok l → ∀ e, (l.foldl (rs 4) (some e)).isSome = true → ce e (ex l) [] = some (ex l) := by
  have hnone : ∀ l : List Oq, l.foldl (rs 4) none = none := by
    intro l
    induction l with
    | nil => rfl
    | cons x l ih => rw [List.foldl_cons]; unfold rs; split <;> exact ih
  induction l with
  | nil => intro _ e _; exact ce_nil e
  | cons x l ih =>
    intro hok e h
    have ih' := ih (fun y hy => hok y (by simp [hy]))
    have hx := (hok x (by simp)).1
    obtain ⟨k, n, t⟩ := x
    simp only [al0] at hx
    rw [List.foldl_cons] at h
    by_cases e3 : k = 3
    · subst e3
      have hr : rs 4 (some e) (3, n, t) = some e := by simp [rs, on]
      rw [hr] at h
      rw [ex, ex1_d, List.singleton_append, ce_d, ih' e h]; rfl
    · have hon : on 4 (k, n, t) = true := by
        simp only [on, Bool.or_eq_true, beq_iff_eq]; omega
      have he : e = false := by
        cases e with
        | false => rfl
        | true =>
          have hr : rs 4 (some true) (k, n, t) = none := by unfold rs; rw [if_pos hon, if_neg (by simp)]
          rw [hr, hnone] at h; cases h
      subst he
      have hr : rs 4 (some false) (k, n, t) = some (opn (k, n, t)) := by unfold rs; rw [if_pos hon, if_pos rfl]
      rw [hr] at h
      by_cases e1 : k = 1
      · subst e1
        obtain ⟨m, hm⟩ : ∃ m : Nat, n.toNat = m + 1 := ⟨(n - 1).toNat, by omega⟩
        have h0 : opn (1, n, t) = false := by simp [opn]
        rw [h0] at h
        rw [ex, ex1_s, hm, ce_repR, if_neg (by simp), ih' false h]; rfl
      · have hk : k = 2 ∨ k = 4 := by omega
        rcases hk with rfl | rfl
        · have h0 : opn (2, n, t) = !cl t := by simp [opn]
          rw [h0] at h
          rw [ex, ex1_k, List.singleton_append, ce_c false _ _ rfl rfl rfl, if_neg (by simp)]
          show ((ce (opU (.k t) || false) (ex l) []).map ([Ut.k t] ++ ·)) = _
          rw [Bool.or_false, show opU (.k t) = !cl t from rfl, ih' _ h]; rfl
        · have h0 : opn (4, n, t) = !cl t := by simp [opn]
          rw [h0] at h
          rw [ex, ex1_i, List.singleton_append, ce_c false _ _ rfl rfl rfl, if_neg (by simp)]
          show ((ce (opU (.i t) || false) (ex l) []).map ([Ut.i t] ++ ·)) = _
          rw [Bool.or_false, show opU (.i t) = !cl t from rfl, ih' _ h]; rfl
theorem flN_nil : flN [] = [] := rfl
/-- nothing behind turns nothing -/
theorem thn_nil {p : List Oq} (hp : right p = true) : thn p [] = some (nrm p) := by
  have op := right_ok hp
  have oq : Ok [] := fun x hx => by cases hx
  have c := wk_ce (p.length + ([] : List Oq).length + 1) false p [] op oq (Nat.lt_succ_self _)
  rw [show ex ([] : List Oq) = [] from rfl, ce_right p op false (right_parts hp).2.2.1] at c
  obtain ⟨r, hw, he⟩ := Option.map_eq_some_iff.1 c
  have ha := byO_al op oq hw
  have hn : nrm (byO r) = nrm p := nrm_same ha (right_al0 hp) (by rw [he])
  unfold thn
  rw [if_pos ⟨hp, rfl⟩, hw]
  simp only
  rw [hn, if_pos (right_nrm hp)]
/-- nothing ahead turns nothing -/
theorem nil_thn {p : List Oq} (hp : right p = true) : thn [] p = some (nrm p) := by
  have h := thn_flip (p := flN p) (q := []) (right_flN hp) rfl
  rw [flN_nil, flN_twice hp, thn_nil (right_flN hp)] at h
  have h2 : thn [] (nrm p) = some (nrm p) := by
    rw [h]
    have : nrm (flN p) = flN p := by unfold flN; rw [if_pos hp, nrm_nrm]
    simp only [Option.map_some]
    rw [this, flN_twice hp]
  -- in order or not is one
  have op := right_ok hp
  have on_ := right_ok (right_nrm hp)
  have c1 := wk_ce (([] : List Oq).length + p.length + 1) false [] p (fun x hx => by cases hx) op (Nat.lt_succ_self _)
  obtain ⟨_, _, _, _, r, hw, hl, hal, hc, _⟩ := thn_some h2
  have hE : Eqv (ce false (ex []) (ex p)) (ce false (ex []) (ex (nrm p))) := ce_eqv rfl (lin_nrm (right_al0 hp)).symm
  rw [hc] at hE
  obtain ⟨u, hu, hlu⟩ := hE.symm.out
  rw [hu] at c1
  obtain ⟨r1, hw1, he1⟩ := Option.map_eq_some_iff.1 c1
  have ha1 := byO_al (fun x hx => by cases hx) op hw1
  have hn : nrm (byO r1) = nrm p := by
    rw [nrm_same ha1 hal (by rw [he1, hlu]), ← hl]
  unfold thn
  rw [if_pos ⟨rfl, hp⟩, hw1]
  simp only
  rw [hn, if_pos (right_nrm hp)]

/-- counts of a row -/
def su (f : Ut → Int) : List Ut → Int
  | [] => 0
  | x :: l => f x + su f l
theorem su_app (f : Ut → Int) (a b : List Ut) : su f (a ++ b) = su f a + su f b := by
  induction a with
  | nil => simp [su]
  | cons x a ih => simp only [List.cons_append, su, ih]; omega
theorem su_rep (f : Ut → Int) (n : Nat) (h : f .s = 1) : su f (List.replicate n Ut.s) = n := by
  induction n with
  | zero => rfl
  | succ n ih => rw [List.replicate_succ, su, ih, h]; omega
theorem su_rep0 (f : Ut → Int) (n : Nat) (h : f .s = 0) : su f (List.replicate n Ut.s) = 0 := by
  induction n with
  | zero => rfl
  | succ n ih => rw [List.replicate_succ, su, ih, h]; omega
theorem su_pos (f : Ut → Int) (h : ∀ x, 0 ≤ f x) (l : List Ut) : 0 ≤ su f l := by
  induction l with
  | nil => exact Int.le_refl _
  | cons x l ih => have := h x; simp only [su]; omega
def u3 : Ut → Int
  | .i _ => 0
  | _ => 1
def u4 : Ut → Int
  | .d _ => 0
  | _ => 1
def uc : Ut → Int
  | .d _ => 1
  | .i _ => 1
  | _ => 0
theorem su_facts (l : List Oq) (h : ∀ x ∈ l, al0 x) : su u3 (ex l) = tot 3 l ∧ su u4 (ex l) = tot 4 l ∧ su uc (ex l) = chs l := by
  induction l with
  | nil => exact ⟨rfl, rfl, rfl⟩
  | cons x l ih =>
    have hx := h x (by simp)
    obtain ⟨i3, i4, ic⟩ := ih (fun y hy => h y (by simp [hy]))
    have ec : chs (x :: l) = chs [x] + chs l := chs_app [x] l
    rw [ex, su_app, su_app, su_app, i3, i4, ic, ec, tot, tot]
    obtain ⟨k, n, t⟩ := x
    simp only [al0] at hx
    rcases hx with ⟨rfl, h1, _⟩ | ⟨hk, _⟩
    · rw [ex1_s, su_rep u3 _ rfl, su_rep u4 _ rfl, su_rep0 uc _ rfl]
      simp only [ln, if_true, chs, List.filter_cons, chg]
      refine ⟨by omega, by omega, by simp⟩
    · rcases hk with rfl | rfl | rfl
      · rw [ex1_k]; simp [su, u3, u4, uc, ln, chs, chg]
      · rw [ex1_d]; simp [su, u3, u4, uc, ln, chs, chg]
      · rw [ex1_i]; simp [su, u3, u4, uc, ln, chs, chg]
theorem cb_counts {x y : Ut} {o : List Ut} (hx : isD [x] = false) (hy : isI [y] = false) (h : cb x y = some o) : u3 x ≤ su u3 o ∧ su u3 o ≤ u3 x + u3 y ∧ u4 y ≤ su u4 o ∧ su uc o ≤ uc x + uc y ∧ su u4 o - su u3 o = u4 x - u3 x + u4 y - u3 y := by
  cases x <;> cases y <;> simp [isD, isI] at hx hy <;> simp [cb] at h
  all_goals first
    | (subst h; simp [su, u3, u4, uc])
    | (obtain ⟨_, rfl⟩ := h; simp [su, u3, u4, uc])
theorem u_pos : (∀ x, 0 ≤ u3 x) ∧ (∀ x, 0 ≤ u4 x) ∧ ∀ x, 0 ≤ uc x := by
  refine ⟨fun x => ?_, fun x => ?_, fun x => ?_⟩ <;> cases x <;> simp [u3, u4, uc]
theorem cu_counts (n : Nat) : ∀ (p q a : List Ut), p.length + q.length < n → cu p q = some a → su u3 p ≤ su u3 a ∧ su u3 a ≤ su u3 p + su u3 q ∧ su u4 q ≤ su u4 a ∧ su uc a ≤ su uc p + su uc q ∧ su u4 a - su u3 a = su u4 p - su u3 p + su u4 q - su u3 q := by
  induction n with
  | zero => intro p q a hn; omega
  | succ n ih =>
    intro p q a hn h
    have q3 := su_pos u3 u_pos.1 q
    have p4 := su_pos u4 u_pos.2.1 p
    have p3 := su_pos u3 u_pos.1 p
    cases p with
    | nil => rw [cu_nil_l] at h; cases h; simp [su]; omega
    | cons x p =>
      cases hp : isD (x :: p) with
      | true =>
        obtain ⟨t, p', e⟩ := isD_is hp
        cases e
        rw [cu_d] at h
        obtain ⟨a', ha, rfl⟩ := map_of h
        have := ih p q a' (by simp at hn; omega) ha
        simp only [su, u3, u4, uc]; omega
      | false =>
        cases q with
        | nil => rw [cu_nil_r] at h; cases h; simp [su] at p3 p4 ⊢; omega
        | cons y q =>
          cases hq : isI (y :: q) with
          | true =>
            obtain ⟨t, q', e⟩ := isI_is hq
            cases e
            rw [cu_i t _ _ hp] at h
            obtain ⟨a', ha, rfl⟩ := map_of h
            have := ih (x :: p) q a' (by simp at hn ⊢; omega) ha
            simp only [su, u3, u4, uc] at this ⊢; omega
          | false =>
            rw [cu_c _ _ _ _ hp hq] at h
            obtain ⟨o, a', ho, ha, rfl⟩ := bind_of h
            rw [isD_hd] at hp
            rw [isI_hd] at hq
            have h1 := cb_counts hp hq ho
            have h2 := ih p q a' (by simp at hn ⊢; omega) ha
            rw [su_app, su_app, su_app]
            simp only [su]; omega
/-- how many lines and changes two have, one behind the other -/
theorem thn_counts {p q l : List Oq} (h : thn p q = some l) : tot 3 p ≤ tot 3 l ∧ tot 4 q ≤ tot 4 l ∧ chs l ≤ chs p + chs q ∧ tot 4 l - tot 3 l = tot 4 p - tot 3 p + tot 4 q - tot 3 q := by
  obtain ⟨rp, rq, rl, _, r, hw, hl, hal, hc, _⟩ := thn_some h
  have hu := ce_cu _ _ _ _ _ (Nat.lt_succ_self _) hc
  have hk := cu_counts _ _ _ _ (Nat.lt_succ_self _) hu
  obtain ⟨a1, a2, a3⟩ := su_facts p (right_al0 rp)
  obtain ⟨b1, b2, b3⟩ := su_facts q (right_al0 rq)
  obtain ⟨c1, c2, c3⟩ := su_facts (byO r) hal
  have kp := kept (byO r) hal
  have t3 : tot 3 l = tot 3 (byO r) := by rw [hl]; exact kp.t3
  have t4 : tot 4 l = tot 4 (byO r) := by rw [hl]; exact kp.t4
  have tc : chs l = chs (byO r) := by rw [hl]; exact kp.ch
  rw [a1, a2, a3, b1, b2, b3, c1, c2, c3] at hk
  rw [t3, t4, tc]
  omega
/-- how far what is told goes, ahead of what is asked of it -/
theorem byO_tot {p q : List Oq} {r : List (Oq × Int) × Bool} (hp : right p = true) (hq : right q = true) (hw : wk (p.length + q.length + 1) false p q = some r) : tot 3 (byO r) ≤ 4294967296 := by
  have op := right_ok hp
  have oq := right_ok hq
  have hal := byO_al op oq hw
  have hc := wk_ce (p.length + q.length + 1) false p q op oq (Nat.lt_succ_self _)
  rw [hw] at hc
  have hu := ce_cu _ _ _ _ _ (Nat.lt_succ_self _) hc.symm
  have hk := cu_counts _ _ _ _ (Nat.lt_succ_self _) hu
  rw [(su_facts p (right_al0 hp)).1, (su_facts q (right_al0 hq)).1, (su_facts (byO r) hal).1] at hk
  have h1 := (right_parts hp).2.2.2.1
  have h2 := (right_parts hq).2.2.2.1
  omega

end Go.Proofs.Ytcdjemheokmglab.Ol

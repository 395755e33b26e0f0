
/-
  Plain laws of two lists of steps, gone through together by their middle: what is told, with whose it is, is what they are laid out; no condition but those that each states.
-/
import Derived.Test.YtcjjboomljbmbaaXTwice
namespace Go.Proofs.Ytcjjboomljbmbaa.Ol
open Go.Proofs.Ytcjjboomljbmbaa.Ln

/-- steps, with whose they are, laid out -/
def exB1 (x : Oq × Int) : List Tg := if x.1.1 = 1 then List.replicate x.1.2.1.toNat Tg.s else if x.1.1 = 2 then [.k x.1.2.2] else if x.1.1 = 3 then (if x.2 = 1 then [.d1 x.1.2.2] else [.d2 x.1.2.2]) else (if x.2 = 1 then [.i1 x.1.2.2] else [.i2 x.1.2.2])
def exB : List (Oq × Int) → List Tg
  | [] => []
  | x :: l => exB1 x ++ exB l
theorem exB_app (a b : List (Oq × Int)) : exB (a ++ b) = exB a ++ exB b := by
  induction a with
  | nil => rfl
  | cons x a ih => simp only [List.cons_append, exB, ih, List.append_assoc]
theorem exB1_tu (x : Oq × Int) : (exB1 x).map tu = ex1 x.1 := by
  obtain ⟨⟨k, n, t⟩, b⟩ := x
  unfold exB1 ex1
  by_cases h1 : k = 1
  · simp [h1, tu]
  · by_cases h2 : k = 2
    · simp [h2, tu]
    · by_cases h3 : k = 3
      · subst h3; by_cases hb : b = 1 <;> simp [hb, tu]
      · simp only [h1, h2, h3, if_false]; by_cases hb : b = 1 <;> simp [hb, tu]
theorem exB_tu (l : List (Oq × Int)) : (exB l).map tu = ex (l.map (·.1)) := by
  induction l with
  | nil => rfl
  | cons x l ih => rw [exB, List.map_append, exB1_tu, ih, List.map_cons, ex]
theorem ct_rep (n : Nat) : ∀ (e : Bool) (p q : List Ut), ct e (List.replicate (n + 1) Ut.s ++ p) (List.replicate (n + 1) Ut.s ++ q) = if e then none else (ct false p q).map fun r => (List.replicate (n + 1) Tg.s ++ r.1, r.2) := by
  induction n with
  | zero =>
    intro e p q
    show ct e (Ut.s :: p) (Ut.s :: q) = _
    rw [ct_c e _ _ rfl rfl rfl]; rfl
  | succ n ih =>
    intro e p q
    rw [List.replicate_succ, List.cons_append, List.cons_append, ct_c e _ _ rfl rfl rfl]
    cases e with
    | true => rfl
    | false =>
      show ((ct false (List.replicate (n + 1) Ut.s ++ p) (List.replicate (n + 1) Ut.s ++ q)).map fun r => ([Tg.s] ++ r.1, false || r.2)) = _
      rw [ih, if_neg (by simp), if_neg (by simp), Option.map_map]; rfl
theorem ct_repL (n : Nat) : ∀ (e : Bool) (q : List Ut), ct e [] (List.replicate (n + 1) Ut.s ++ q) = if e then none else (ct false [] q).map fun r => (List.replicate (n + 1) Tg.s ++ r.1, r.2) := by
  induction n with
  | zero =>
    intro e q
    show ct e [] (Ut.s :: q) = _
    rw [ct_c e _ _ rfl rfl rfl]; rfl
  | succ n ih =>
    intro e q
    rw [List.replicate_succ, List.cons_append, ct_c e _ _ rfl rfl rfl]
    cases e with
    | true => rfl
    | false =>
      show ((ct false [] (List.replicate (n + 1) Ut.s ++ q)).map fun r => ([Tg.s] ++ r.1, false || r.2)) = _
      rw [ih, if_neg (by simp), if_neg (by simp), Option.map_map]; rfl
theorem ct_repR (n : Nat) : ∀ (e : Bool) (p : List Ut), ct e (List.replicate (n + 1) Ut.s ++ p) [] = if e then none else (ct false p []).map fun r => (List.replicate (n + 1) Tg.s ++ r.1, r.2) := by
  induction n with
  | zero =>
    intro e p
    show ct e (Ut.s :: p) [] = _
    rw [ct_c e _ _ rfl rfl rfl]; rfl
  | succ n ih =>
    intro e p
    rw [List.replicate_succ, List.cons_append, ct_c e _ _ rfl rfl rfl]
    cases e with
    | true => rfl
    | false =>
      show ((ct false (List.replicate (n + 1) Ut.s ++ p) []).map fun r => ([Tg.s] ++ r.1, false || r.2)) = _
      rw [ih, if_neg (by simp), if_neg (by simp), Option.map_map]; rfl
theorem cbT_ux {x y : Oq} (hx : al0 x) (hy : al0 y) (h3 : x.1 ≠ 3) (h4 : y.1 ≠ 4) (hxy : ¬ (x.1 = 1 ∧ y.1 = 1)) : cbT (ux x) (ux y) = if x.1 ≠ 1 ∧ y.1 ≠ 1 ∧ x.2.2 ≠ y.2.2 then none else some (exB (wkO x y 1), x.1 == 4 && y.1 == 3) := by
  obtain ⟨k, n, t⟩ := x
  obtain ⟨l, m, u⟩ := y
  simp only [al0] at hx hy h3 h4 hxy ⊢
  have hk : k = 1 ∨ k = 2 ∨ k = 4 := by omega
  have hl : l = 1 ∨ l = 2 ∨ l = 3 := by omega
  rcases hk with rfl | rfl | rfl <;> rcases hl with rfl | rfl | rfl
  · exact absurd ⟨rfl, rfl⟩ hxy
  · simp [ux, cbT, wkO, exB, exB1]
  · simp [ux, cbT, wkO, exB, exB1]
  · simp [ux, cbT, wkO, exB, exB1]
  · by_cases h : t = u
    · subst h; simp [ux, cbT, wkO, exB, exB1]
    · simp [ux, cbT, h]
  · by_cases h : t = u
    · subst h; simp [ux, cbT, wkO, exB, exB1]
    · simp [ux, cbT, h]
  · simp [ux, cbT, wkO, exB, exB1]
  · by_cases h : t = u
    · subst h; simp [ux, cbT, wkO, exB, exB1]
    · simp [ux, cbT, h]
  · by_cases h : t = u
    · subst h; simp [ux, cbT, wkO, exB]
    · simp [ux, cbT, h]
theorem mapT_by (w : Option (List (Oq × Int) × Bool)) (o : List (Oq × Int)) (b : Bool) : (w.map fun r => (o ++ r.1, b || r.2)).map (fun r => (exB r.1, r.2)) = (w.map fun r => (exB r.1, r.2)).map fun r => (exB o ++ r.1, b || r.2) := by
  cases w with
  | none => rfl
  | some r => simp [exB_app]
theorem mapT_by1 (w : Option (List (Oq × Int) × Bool)) (x : Oq) (k : Int) : (w.map fun r => ((x, k) :: r.1, r.2)).map (fun r => (exB r.1, r.2)) = (w.map fun r => (exB r.1, r.2)).map fun r => (exB1 (x, k) ++ r.1, r.2) := by
  cases w with
  | none => rfl
  | some r => simp [exB]
/-- what is told is what they are, laid out -/
theorem wk_ct (f : Nat) : ∀ (e : Bool) (p q : List Oq), Ok p → Ok q → p.length + q.length < f → (wk f e p q).map (fun r => (exB r.1, r.2)) = ct e (ex p) (ex q) := by
  induction f with
  | zero => intro e p q _ _ hn; omega
  | succ f ih =>
    intro e p q op oq hn
    rw [wk]
    by_cases h0 : (p.isEmpty && q.isEmpty) = true
    · have e1 : p = [] := by cases p with | nil => rfl | cons => simp at h0
      have e2 : q = [] := by cases q with | nil => rfl | cons => simp at h0
      subst e1 e2
      exact (ct_nil e).symm
    · rw [if_neg h0]
      have h0b : ((ex p).isEmpty && (ex q).isEmpty) = false := by rw [ex_empty op, ex_empty oq]; simpa using h0
      by_cases h3 : (hdO p).1 = 3
      · rw [if_pos h3]
        cases p with
        | nil => cases h3
        | cons x p =>
          obtain ⟨k, n, t⟩ := x
          simp only [hdO] at h3
          subst h3
          simp only [List.tail_cons, hdO]
          rw [mapT_by1, ex, ex1_d, List.singleton_append, ct_d, ih e p q (fun y hy => op y (by simp [hy])) oq (by simp at hn; omega)]
          rfl
      · rw [if_neg h3]
        have hD : isD (ex p) = false := by rw [ex_isD op]; simpa using h3
        by_cases h4 : (hdO q).1 = 4
        · rw [if_pos h4]
          cases q with
          | nil => cases h4
          | cons x q =>
            obtain ⟨k, n, t⟩ := x
            simp only [hdO] at h4
            subst h4
            simp only [List.tail_cons, hdO]
            rw [mapT_by1, show ex ((4, n, t) :: q) = Ut.i t :: ex q by rw [ex, ex1_i]; rfl, ct_i e t _ _ hD, ih e p q op (fun y hy => oq y (by simp [hy])) (by simp at hn; omega)]
            rfl
        · rw [if_neg h4]
          have hI : isI (ex q) = false := by rw [ex_isI oq]; simpa using h4
          cases e with
          | true => rw [if_pos rfl, ct_c true _ _ hD hI h0b]; rfl
          | false =>
            rw [if_neg (by simp)]
            obtain ⟨ahp, bhp⟩ := op.hd
            obtain ⟨ahq, bhq⟩ := oq.hd
            by_cases hss : (hdO p).1 = 1 ∧ (hdO q).1 = 1
            · rw [if_neg (fun c => c.1 hss.1)]
              have hN : wkN (hdO p) (hdO q) = min (hdO p).2.1 (hdO q).2.1 := by unfold wkN; rw [if_pos hss]
              have hp1 : 1 ≤ (hdO p).2.1 := by rcases ahp with ⟨_, h, _⟩ | ⟨h, _⟩ <;> omega
              have hq1 : 1 ≤ (hdO q).2.1 := by rcases ahq with ⟨_, h, _⟩ | ⟨h, _⟩ <;> omega
              obtain ⟨n, hn1⟩ : ∃ n : Nat, min (hdO p).2.1 (hdO q).2.1 = ((n + 1 : Nat) : Int) := ⟨(min (hdO p).2.1 (hdO q).2.1 - 1).toNat, by omega⟩
              rw [hN, hn1]
              have hO : wkO (hdO p) (hdO q) ((n + 1 : Nat) : Int) = [((1, ((n + 1 : Nat) : Int), []), 0)] := by unfold wkO; rw [if_pos hss]
              have hop : (opn (hdO p) || opn (hdO q)) = false := by simp [opn, hss.1, hss.2]
              rw [mapT_by _ (wkO (hdO p) (hdO q) ((n + 1 : Nat) : Int)), hO, hop]
              have hB : ((hdO p).1 == 4 && (hdO q).1 == 3) = false := by simp [hss.1]
              have hR : exB [(((1, ((n + 1 : Nat) : Int), []) : Oq), (0 : Int))] = List.replicate (n + 1) Tg.s := by
                simp only [exB, exB1, if_true, List.append_nil, Int.toNat_natCast]
              rw [hR, hB, ih false _ _ (op.onn _ (by omega)) (oq.onn _ (by omega)) ?_]
              · by_cases hpe : p = []
                · subst hpe
                  have hqe : q ≠ [] := fun h => h0 (by rw [h]; rfl)
                  rw [show ex ([] : List Oq) = [] from rfl, ex_skips oq hqe hss.2 (n + 1) (by omega), ct_repL]
                  rfl
                · by_cases hqe : q = []
                  · subst hqe
                    rw [show ex ([] : List Oq) = [] from rfl, ex_skips op hpe hss.1 (n + 1) (by omega), ct_repR]
                    rfl
                  · rw [ex_skips oq hqe hss.2 (n + 1) (by omega), ex_skips op hpe hss.1 (n + 1) (by omega), ct_rep]
                    rfl
              · have l1 := onn_len p ((n + 1 : Nat) : Int)
                have l2 := onn_len q ((n + 1 : Nat) : Int)
                by_cases hle : (hdO p).2.1 ≤ (hdO q).2.1
                · by_cases hpe : p = []
                  · subst hpe
                    have hqe : q ≠ [] := fun h => h0 (by rw [h]; rfl)
                    have hM : (hdO q).2.1 ≤ ((n + 1 : Nat) : Int) := by
                      have h9 : (hdO []).2.1 = 1099511627776 := rfl
                      rw [h9] at hle hn1; omega
                    have h8 := onn_drop hqe (Or.inr hM)
                    have h7 : (onn [] ((n + 1 : Nat) : Int)).length = 0 := rfl
                    have h6 : ([] : List Oq).length = 0 := rfl
                    omega
                  · have := onn_drop hpe (n := ((n + 1 : Nat) : Int)) (Or.inr (by omega))
                    omega
                · by_cases hqe : q = []
                  · subst hqe
                    have h9 : (hdO []).2.1 = 1099511627776 := rfl
                    rw [h9] at hle; omega
                  · have := onn_drop hqe (n := ((n + 1 : Nat) : Int)) (Or.inr (by omega))
                    omega
            · have hN : wkN (hdO p) (hdO q) = 1 := by unfold wkN; rw [if_neg hss]
              rw [hN, ct_c false _ _ hD hI h0b, ex_hdU op, ex_hdU oq, ux_op, ux_op, ex_tail op, ex_tail oq, cbT_ux ahp ahq h3 h4 hss]
              by_cases hc : (hdO p).1 ≠ 1 ∧ (hdO q).1 ≠ 1 ∧ (hdO p).2.2 ≠ (hdO q).2.2
              · rw [if_pos hc, if_pos hc]; rfl
              · rw [if_neg hc, if_neg hc, mapT_by _ (wkO (hdO p) (hdO q) 1), ih _ _ _ (op.onn _ (by omega)) (oq.onn _ (by omega)) ?_]
                · rfl
                · have l1 := onn_len p 1
                  have l2 := onn_len q 1
                  by_cases hp1 : (hdO p).1 = 1
                  · have hq1 : (hdO q).1 ≠ 1 := fun h => hss ⟨hp1, h⟩
                    have hqe : q ≠ [] := fun h => by rw [h] at hq1; exact hq1 rfl
                    have := onn_drop hqe (n := 1) (Or.inl hq1)
                    omega
                  · have hpe : p ≠ [] := fun h => by rw [h] at hp1; exact hp1 rfl
                    have := onn_drop hpe (n := 1) (Or.inl hp1)
                    omega

end Go.Proofs.Ytcjjboomljbmbaa.Ol

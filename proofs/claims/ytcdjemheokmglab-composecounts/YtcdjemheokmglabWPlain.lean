
/-
  Plain laws of the lines to which any steps can be done, with whatever lines where nothing is known; no condition but those that each states.
-/
import Derived.Test.YtcdjemheokmglabAPlain
namespace Go.Proofs.Ytcdjemheokmglab.Ol
open Go.Proofs.Ytcdjemheokmglab.Ln

/-- lines where nothing is known -/
def fillW (q : Nat → Tx) (p n : Nat) : List Tx := (List.range n).map fun j => q (p + j)
/-- the lines of both sides, so far -/
def wst (q : Nat → Tx) (s : List Tx × List Tx) (x : Oq) : List Tx × List Tx :=
  if x.1 = 1 then (s.1 ++ fillW q s.1.length x.2.1.toNat, s.2 ++ fillW q s.1.length x.2.1.toNat)
  else (if x.1 = 4 then s.1 else s.1 ++ [x.2.2], if x.1 = 3 then s.2 else s.2 ++ [x.2.2])
def wso (q : Nat → Tx) (l : List Oq) : List Tx × List Tx := l.foldl (wst q) ([], [])
/-- lines that will do -/
def wit (q : Nat → Tx) (l : List Oq) : List Tx := (wso q l).1
theorem wso_snoc (q : Nat → Tx) (l : List Oq) (x : Oq) : wso q (l ++ [x]) = wst q (wso q l) x := by simp [wso, List.foldl_append]
theorem wso_take (q : Nat → Tx) {xs : List Oq} {k : Nat} {x : Oq} (h : xs[k]? = some x) : wso q (xs.take (k + 1)) = wst q (wso q (xs.take k)) x := by
  rw [List.take_add_one, h]; exact wso_snoc _ _ _
theorem fillW_len (q : Nat → Tx) (p n : Nat) : (fillW q p n).length = n := by simp [fillW]
theorem fillW_succ (q : Nat → Tx) (p n : Nat) : fillW q p (n + 1) = fillW q p n ++ [q (p + n)] := by simp [fillW, List.range_succ]
/-- how many lines -/
theorem wso_len (q : Nat → Tx) (l : List Oq) : (∀ x ∈ l, al0 x) → ((wso q l).1.length : Int) = tot 3 l ∧ ((wso q l).2.length : Int) = tot 4 l := by
  refine snoc_ind (P := fun l => (∀ x ∈ l, al0 x) → ((wso q l).1.length : Int) = tot 3 l ∧ ((wso q l).2.length : Int) = tot 4 l) (fun _ => ⟨rfl, rfl⟩) ?_ l
  intro l x ih h
  obtain ⟨h1, h2⟩ := ih (fun y hy => h y (by simp [hy]))
  have hx := h x (by simp)
  rw [wso_snoc, tot_snoc, tot_snoc]
  unfold wst
  rcases hx with ⟨e, hp, _⟩ | ⟨e, _⟩
  · rw [if_pos e]
    simp only [List.length_append, fillW_len, ln, if_pos e]
    omega
  · have hn : ¬ x.1 = 1 := by omega
    rw [if_neg hn]
    rcases e with e | e | e
    · simp [e, ln]; omega
    · simp [e, ln]; omega
    · simp [e, ln]; omega
/-- the steps can be done to the lines, whatever lies behind them -/
theorem dsl_wso (q : Nat → Tx) (l : List Oq) : (∀ x ∈ l, al0 x) → ∀ rest, dsl ((wso q l).1 ++ rest) l = some ((wso q l).2, (wso q l).1.length) := by
  refine snoc_ind (P := fun l => (∀ x ∈ l, al0 x) → ∀ rest, dsl ((wso q l).1 ++ rest) l = some ((wso q l).2, (wso q l).1.length)) (fun _ _ => rfl) ?_ l
  intro l x ih h rest
  have ih' := ih (fun y hy => h y (by simp [hy]))
  have hx := h x (by simp)
  rw [wso_snoc, dsl_snoc]
  obtain ⟨x1, x2, x3⟩ := x
  unfold wst
  by_cases e1 : x1 = 1
  · subst e1
    have hp : 1 ≤ x2 := by rcases hx with ⟨_, e, _⟩ | ⟨e, _⟩ <;> simp only at e <;> omega
    simp only [if_true]
    rw [List.append_assoc, ih']
    rw [ds_skip x2.toNat (by omega) (by rw [List.length_append, List.length_append, fillW_len]; omega)]
    rw [List.drop_append_of_le_length (Nat.le_refl _), List.drop_length, List.nil_append, List.take_append_of_le_length (by rw [fillW_len]; exact Nat.le_refl _), List.take_of_length_le (by rw [fillW_len]; exact Nat.le_refl _), List.length_append, fillW_len]
  · have hk : x1 = 2 ∨ x1 = 3 ∨ x1 = 4 := by rcases hx with ⟨e, _⟩ | ⟨e, _⟩ <;> simp only at e <;> omega
    simp only [if_neg e1]
    have hat : ∀ (o : List Tx) (r : List Tx) (t : Tx), (o ++ [t] ++ r)[o.length]? = some t := fun o r t => by
      rw [List.append_assoc, List.getElem?_append_right (Nat.le_refl _), Nat.sub_self]; rfl
    rcases hk with rfl | rfl | rfl
    · simp only [show ¬ (2 : Int) = 4 by decide, show ¬ (2 : Int) = 3 by decide, if_false]
      rw [List.append_assoc, ih', ← List.append_assoc, ds_keep (hat _ _ _)]
      simp
    · simp only [show ¬ (3 : Int) = 4 by decide, if_true, if_false]
      rw [List.append_assoc, ih', ← List.append_assoc, ds_del (hat _ _ _)]
      simp
    · simp only [show ¬ (4 : Int) = 3 by decide, if_true, if_false]
      rw [ih', ds_ins]
/-- lines that are all closed -/
def cls (o : List Tx) : Prop := ∀ t ∈ o, rt t = true ∧ cl t = true
theorem wh_cls {o : List Tx} (h : cls o) : wh o = true := by
  induction o with
  | nil => rfl
  | cons t o ih =>
    obtain ⟨h1, h2⟩ := h t (by simp)
    simp only [wh, h1, h2, ih (fun y hy => h y (by simp [hy]))]
    simp
theorem wh_one {o : List Tx} {t : Tx} (h : cls o) (ht : rt t = true) : wh (o ++ [t]) = true := by
  induction o with
  | nil => simp [wh, ht]
  | cons u o ih =>
    obtain ⟨h1, h2⟩ := h u (by simp)
    simp only [List.cons_append, wh, h1, h2, ih (fun y hy => h y (by simp [hy]))]
    simp
/-- how a side's lines stand: all closed, or the last alone open -/
def stand (f : Bool) (o : List Tx) : Prop := if f = true then ∃ o' t, o = o' ++ [t] ∧ cls o' ∧ rt t = true else cls o
theorem wh_stand {f : Bool} {o : List Tx} (h : stand f o) : wh o = true := by
  unfold stand at h
  split at h
  · obtain ⟨o', t, rfl, h1, h2⟩ := h; exact wh_one h1 h2
  · exact wh_cls h
theorem cls_app {a b : List Tx} (h1 : cls a) (h2 : cls b) : cls (a ++ b) := fun t ht => by
  rcases List.mem_append.1 ht with h | h
  · exact h1 t h
  · exact h2 t h
theorem cls_fill {q : Nat → Tx} (hq : ∀ j, rt (q j) = true ∧ cl (q j) = true) (p n : Nat) : cls (fillW q p n) := fun t ht => by
  obtain ⟨j, _, rfl⟩ := List.mem_map.1 ht
  exact hq _
theorem stand_line {o : List Tx} {t : Tx} (h : cls o) (ht : rt t = true) : stand (!cl t) (o ++ [t]) := by
  unfold stand
  cases hc : cl t with
  | true => simp only [Bool.not_true, Bool.false_eq_true, if_false]; exact cls_app h (fun u hu => by simp at hu; subst hu; exact ⟨ht, hc⟩)
  | false => simp only [Bool.not_false, if_true]; exact ⟨o, t, rfl, h, ht⟩
theorem stand_wso {q : Nat → Tx} (hq : ∀ j, rt (q j) = true ∧ cl (q j) = true) (l : List Oq) : (∀ x ∈ l, al0 x) → (∀ f, rsl 3 l = some f → stand f (wso q l).1) ∧ ∀ f, rsl 4 l = some f → stand f (wso q l).2 := by
  refine snoc_ind (P := fun l => (∀ x ∈ l, al0 x) → (∀ f, rsl 3 l = some f → stand f (wso q l).1) ∧ ∀ f, rsl 4 l = some f → stand f (wso q l).2) ?_ ?_ l
  · intro _
    exact ⟨fun f h => by cases h; intro t ht; (try simp [wso] at ht), fun f h => by cases h; intro t ht; (try simp [wso] at ht)⟩
  · intro l x ih h
    obtain ⟨i3, i4⟩ := ih (fun y hy => h y (by simp [hy]))
    have hx := h x (by simp)
    rw [wso_snoc, rsl_snoc, rsl_snoc]
    obtain ⟨x1, x2, x3⟩ := x
    simp only [al0] at hx
    -- a step that is on a side stands behind closed lines
    have hon : ∀ own f, rs own (rsl own l) (x1, x2, x3) = some f → on own (x1, x2, x3) = true → rsl own l = some false ∧ f = opn (x1, x2, x3) := by
      intro own f he ho
      unfold rs at he
      rw [if_pos ho] at he
      split at he
      · rename_i h0; cases he; exact ⟨h0, rfl⟩
      · cases he
    have hoff : ∀ own f, rs own (rsl own l) (x1, x2, x3) = some f → on own (x1, x2, x3) = false → rsl own l = some f := by
      intro own f he ho
      unfold rs at he
      rw [if_neg (by simp [ho])] at he
      exact he
    unfold wst
    by_cases e1 : x1 = 1
    · subst e1
      simp only [if_true]
      refine ⟨fun f hf => ?_, fun f hf => ?_⟩
      · obtain ⟨h0, rfl⟩ := hon 3 f hf rfl
        exact cls_app (i3 false h0) (cls_fill hq _ _)
      · obtain ⟨h0, rfl⟩ := hon 4 f hf rfl
        exact cls_app (i4 false h0) (cls_fill hq _ _)
    · have hk : (x1 = 2 ∨ x1 = 3 ∨ x1 = 4) ∧ rt x3 = true := by
        rcases hx with ⟨e, _⟩ | ⟨e, _, e2⟩
        · exact absurd e e1
        · exact ⟨e, e2⟩
      have hop : opn (x1, x2, x3) = !cl x3 := by
        unfold opn
        have : (x1 == 1) = false := by simpa using e1
        simp [this]
      simp only [if_neg e1]
      rcases hk.1 with rfl | rfl | rfl
      · simp only [show ¬ (2 : Int) = 4 by decide, show ¬ (2 : Int) = 3 by decide, if_false]
        refine ⟨fun f hf => ?_, fun f hf => ?_⟩
        · obtain ⟨h0, rfl⟩ := hon 3 f hf rfl
          rw [hop]; exact stand_line (i3 false h0) hk.2
        · obtain ⟨h0, rfl⟩ := hon 4 f hf rfl
          rw [hop]; exact stand_line (i4 false h0) hk.2
      · simp only [show ¬ (3 : Int) = 4 by decide, if_true, if_false]
        refine ⟨fun f hf => ?_, fun f hf => ?_⟩
        · obtain ⟨h0, rfl⟩ := hon 3 f hf rfl
          rw [hop]; exact stand_line (i3 false h0) hk.2
        · exact i4 f (hoff 4 f hf rfl)
      · simp only [show ¬ (4 : Int) = 3 by decide, if_true, if_false]
        refine ⟨fun f hf => ?_, fun f hf => ?_⟩
        · exact i3 f (hoff 3 f hf rfl)
        · obtain ⟨h0, rfl⟩ := hon 4 f hf rfl
          rw [hop]; exact stand_line (i4 false h0) hk.2
/-- any steps that are right can be done to the lines -/
theorem doo_wit {q : Nat → Tx} (hq : ∀ j, rt (q j) = true ∧ cl (q j) = true) {l : List Oq} (h : right l = true) : doo l (wit q l) = some (wso q l).2 := by
  have hal := right_al0 h
  obtain ⟨s3, s4⟩ := stand_wso hq l hal
  obtain ⟨_, h3, h4, _, _⟩ := right_parts h
  obtain ⟨f3, e3⟩ := Option.isSome_iff_exists.1 h3
  obtain ⟨f4, e4⟩ := Option.isSome_iff_exists.1 h4
  have hd := dsl_wso q l hal []
  rw [List.append_nil] at hd
  unfold doo wit
  rw [if_pos ⟨h, wh_stand (s3 f3 e3)⟩, hd]
  simp only [List.drop_length, List.append_nil]
  rw [if_pos (wh_stand (s4 f4 e4))]
/-- .. and to no lines that are fewer -/
theorem doo_least {l : List Oq} {old a : List Tx} (h : doo l old = some a) : tot 3 l ≤ old.length := by
  obtain ⟨hr, _, out, p, hd, _, _, n⟩ := doo_some h
  have h1 := n.o3
  have h2 := n.le
  omega

end Go.Proofs.Ytcdjemheokmglab.Ol

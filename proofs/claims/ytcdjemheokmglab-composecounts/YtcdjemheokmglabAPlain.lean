
/-
  Plain laws of steps that are done to lines: what comes of them, that putting steps in order turns nothing, how many lines there are behind, and that a line that is known must be there; no condition but those that each states.
-/
import Derived.Test.YtcdjemheokmglabOPlain
namespace Go.Proofs.Ytcdjemheokmglab.Ol
open Go.Proofs.Ytcdjemheokmglab.Ln

/-- one step done: what came, and how many of the old lines are behind it -/
def ds (old : List Tx) (s : Option (List Tx × Nat)) (x : Oq) : Option (List Tx × Nat) :=
  match s with
  | none => none
  | some (out, p) =>
    if x.1 = 4 then some (out ++ [x.2.2], p)
    else if x.1 = 1 then (if (p : Int) + x.2.1 ≤ old.length then some (out ++ (old.drop p).take x.2.1.toNat, p + x.2.1.toNat) else none)
    else if old[p]? = some x.2.2 then some (if x.1 = 3 then out else out ++ [x.2.2], p + 1) else none
def dsl (old : List Tx) (l : List Oq) : Option (List Tx × Nat) := l.foldl (ds old) (some ([], 0))
/-- what comes of lines by steps, if they can be done -/
def doo (l : List Oq) (old : List Tx) : Option (List Tx) :=
  if right l = true ∧ wh old = true then
    match dsl old l with
    | none => none
    | some (out, p) => if wh (out ++ old.drop p) = true then some (out ++ old.drop p) else none
  else none

theorem ds_none (old : List Tx) (l : List Oq) : l.foldl (ds old) none = none := by
  induction l with
  | nil => rfl
  | cons x l ih => exact ih
theorem dsl_snoc (old : List Tx) (l : List Oq) (x : Oq) : dsl old (l ++ [x]) = ds old (dsl old l) x := by simp [dsl, List.foldl_append]
theorem dsl_app (old : List Tx) (a b : List Oq) : dsl old (a ++ b) = b.foldl (ds old) (dsl old a) := by simp [dsl, List.foldl_append]
theorem dsl_take {old : List Tx} {xs : List Oq} {k : Nat} {x : Oq} (h : xs[k]? = some x) : dsl old (xs.take (k + 1)) = ds old (dsl old (xs.take k)) x := by
  rw [List.take_add_one, h]; exact dsl_snoc _ _ _
theorem dsl_stop {old : List Tx} {xs : List Oq} {k : Nat} (h : dsl old (xs.take k) = none) : dsl old xs = none := by
  have e := dsl_app old (xs.take k) (xs.drop k)
  rw [List.take_append_drop, h, ds_none] at e
  exact e
theorem doo_stop {old : List Tx} {xs : List Oq} {k : Nat} {x : Oq} {s : Option (List Tx × Nat)} (hx : xs[k]? = some x) (hs : dsl old (xs.take k) = s) (h : ds old s x = none) : doo xs old = none := by
  have : dsl old xs = none := dsl_stop (k := k + 1) (by rw [dsl_take hx, hs, h])
  unfold doo
  rw [this]
  split <;> rfl
theorem ds_ins {old out : List Tx} {p : Nat} {x2 : Int} {x3 : Tx} : ds old (some (out, p)) (4, x2, x3) = some (out ++ [x3], p) := by simp [ds]
theorem ds_skip {old out : List Tx} {p : Nat} {x2 : Int} {x3 : Tx} (n : Nat) (hn : x2 = n) (h : p + n ≤ old.length) : ds old (some (out, p)) (1, x2, x3) = some (out ++ (old.drop p).take n, p + n) := by
  subst hn
  have : (p : Int) + n ≤ old.length := by omega
  simp [ds, this]
theorem ds_skip_no {old out : List Tx} {p : Nat} {x2 : Int} {x3 : Tx} (h : ¬ (p : Int) + x2 ≤ old.length) : ds old (some (out, p)) (1, x2, x3) = none := by simp [ds, h]
theorem ds_keep {old out : List Tx} {p : Nat} {x2 : Int} {x3 : Tx} (h : old[p]? = some x3) : ds old (some (out, p)) (2, x2, x3) = some (out ++ [x3], p + 1) := by simp [ds, h]
theorem ds_del {old out : List Tx} {p : Nat} {x2 : Int} {x3 : Tx} (h : old[p]? = some x3) : ds old (some (out, p)) (3, x2, x3) = some (out, p + 1) := by simp [ds, h]
theorem ds_no {old out : List Tx} {p : Nat} {x1 x2 : Int} {x3 : Tx} (h1 : x1 ≠ 1) (h4 : x1 ≠ 4) (h : old[p]? ≠ some x3) : ds old (some (out, p)) (x1, x2, x3) = none := by simp [ds, h1, h4, h]

/-- where steps stand -/
structure Dn (old : List Tx) (l : List Oq) (out : List Tx) (p : Nat) : Prop where
  le : p ≤ old.length
  o3 : (p : Int) = tot 3 l
  o4 : (out.length : Int) = tot 4 l
  len : out.length ≤ l.length + p
theorem dn (old : List Tx) (l : List Oq) : (∀ x ∈ l, al0 x) → ∀ out p, dsl old l = some (out, p) → Dn old l out p := by
  refine snoc_ind (P := fun l => (∀ x ∈ l, al0 x) → ∀ out p, dsl old l = some (out, p) → Dn old l out p) ?_ ?_ l
  · intro _ out p h
    simp only [dsl, List.foldl_nil, Option.some.injEq, Prod.mk.injEq] at h
    obtain ⟨rfl, rfl⟩ := h
    exact ⟨Nat.zero_le _, rfl, rfl, Nat.zero_le _⟩
  · intro l x ih hal out p h
    rw [dsl_snoc] at h
    cases hd : dsl old l with
    | none => rw [hd] at h; cases h
    | some s =>
      obtain ⟨o, q⟩ := s
      rw [hd] at h
      obtain ⟨h1, h2, h3, h4⟩ := ih (fun y hy => hal y (by simp [hy])) o q hd
      have hx := hal x (by simp)
      obtain ⟨x1, x2, x3⟩ := x
      simp only [al0] at hx
      by_cases e4 : x1 = 4
      · subst e4
        rw [ds_ins] at h
        simp only [Option.some.injEq, Prod.mk.injEq] at h
        obtain ⟨rfl, rfl⟩ := h
        refine ⟨h1, ?_, ?_, ?_⟩
        · rw [tot_snoc]; simp [ln]; exact h2
        · rw [tot_snoc]; simp [ln]; exact h3
        · simp; omega
      · by_cases e1 : x1 = 1
        · subst e1
          by_cases hle : (q : Int) + x2 ≤ old.length
          · have hn : x2 = (x2.toNat : Nat) := by omega
            rw [ds_skip x2.toNat hn (by omega)] at h
            simp only [Option.some.injEq, Prod.mk.injEq] at h
            obtain ⟨rfl, rfl⟩ := h
            have hln : ∀ own, ln own (1, x2, x3) = x2 := fun own => by simp only [ln, if_true]; omega
            refine ⟨by omega, ?_, ?_, ?_⟩
            · rw [tot_snoc, hln]; omega
            · rw [tot_snoc, hln, List.length_append, List.length_take, List.length_drop]; omega
            · rw [List.length_append, List.length_take, List.length_drop]; simp; omega
          · rw [ds_skip_no hle] at h; cases h
        · by_cases ho : old[q]? = some x3
          · obtain ⟨hq, _⟩ := List.getElem?_eq_some_iff.1 ho
            by_cases e3 : x1 = 3
            · subst e3
              rw [ds_del ho] at h
              simp only [Option.some.injEq, Prod.mk.injEq] at h
              obtain ⟨rfl, rfl⟩ := h
              refine ⟨by omega, ?_, ?_, ?_⟩
              · rw [tot_snoc]; simp [ln]; exact h2
              · rw [tot_snoc]; simp [ln]; exact h3
              · simp; omega
            · obtain rfl : x1 = 2 := by omega
              rw [ds_keep ho] at h
              simp only [Option.some.injEq, Prod.mk.injEq] at h
              obtain ⟨rfl, rfl⟩ := h
              refine ⟨by omega, ?_, ?_, ?_⟩
              · rw [tot_snoc]; simp [ln]; exact h2
              · rw [tot_snoc]; simp [ln]; exact h3
              · simp; omega
          · rw [ds_no e1 e4 ho] at h; cases h

/-- a Del and an Ins change places -/
theorem ds_swap (old : List Tx) (s : Option (List Tx × Nat)) (x y : Oq) (hx : x.1 = 4) (hy : y.1 = 3) : ds old (ds old s x) y = ds old (ds old s y) x := by
  obtain ⟨x1, x2, x3⟩ := x
  obtain ⟨y1, y2, y3⟩ := y
  simp only at hx hy
  subst hx hy
  cases s with
  | none => rfl
  | some s =>
    obtain ⟨o, p⟩ := s
    by_cases h : old[p]? = some y3
    · rw [ds_ins, ds_del h, ds_del h, ds_ins]
    · rw [ds_ins, ds_no (by omega) (by omega) h, ds_no (by omega) (by omega) h]; rfl
theorem ds_swaps (old : List Tx) (y : Oq) (hy : y.1 = 3) (c : List Oq) : (∀ z ∈ c, z.1 = 4) → ∀ s, ds old (c.foldl (ds old) s) y = c.foldl (ds old) (ds old s y) := by
  induction c with
  | nil => intro _ s; rfl
  | cons x c ih =>
    intro h s
    rw [List.foldl_cons, ih (fun z hz => h z (by simp [hz])), ds_swap old s x y (h x (by simp)) hy]; rfl
/-- two Skips are one -/
theorem ds_merge (old : List Tx) (s : Option (List Tx × Nat)) (y x : Oq) (hy : y.1 = 1) (hx : x.1 = 1) (py : 1 ≤ y.2.1) (px : 1 ≤ x.2.1) : ds old s (y.1, y.2.1 + x.2.1, y.2.2) = ds old (ds old s y) x := by
  obtain ⟨x1, x2, x3⟩ := x
  obtain ⟨y1, y2, y3⟩ := y
  simp only at hx hy py px
  subst hx hy
  cases s with
  | none => rfl
  | some s =>
    obtain ⟨o, p⟩ := s
    have hn : x2 = (x2.toNat : Nat) := by omega
    have hm : y2 = (y2.toNat : Nat) := by omega
    generalize x2.toNat = n at hn
    generalize y2.toNat = m at hm
    subst hn hm
    simp only
    by_cases h1 : p + m ≤ old.length
    · rw [ds_skip m rfl h1]
      by_cases h2 : p + m + n ≤ old.length
      · rw [ds_skip n rfl h2, ds_skip (m + n) (by omega) (by omega)]
        rw [List.append_assoc, ← Nat.add_assoc, List.take_add, List.drop_drop]
      · rw [ds_skip_no (by omega), ds_skip_no (by omega)]
    · rw [ds_skip_no (by omega), ds_skip_no (by omega)]; rfl
/-- putting in order turns nothing -/
theorem dsl_nfo (old : List Tx) (l : List Oq) : (∀ x ∈ l, al0 x) → dsl old ((nfo l).1 ++ (nfo l).2) = dsl old l := by
  refine snoc_ind (P := fun l => (∀ x ∈ l, al0 x) → dsl old ((nfo l).1 ++ (nfo l).2) = dsl old l) (fun _ => rfl) ?_ l
  intro l x ih hal
  have hal' : ∀ y ∈ l, al0 y := fun y hy => hal y (by simp [hy])
  have h := ih hal'
  have hk := kept l hal'
  have hx := hal x (by simp)
  rw [nfo_snoc, dsl_snoc, ← h]
  have hins := hk.ins
  have hall := hk.al
  clear ih hk h
  generalize nfo l = s at hins hall
  obtain ⟨a, c⟩ := s
  simp only at *
  unfold nst
  by_cases e3 : x.1 = 3
  · simp only [if_pos e3]
    rw [dsl_app, dsl_snoc, dsl_app, ds_swaps old x e3 c hins]
  · by_cases e4 : x.1 = 4
    · simp only [if_neg e3, if_pos e4]
      rw [← List.append_assoc, dsl_snoc]
    · simp only [if_neg e3, if_neg e4, List.append_nil]
      rcases stay_cases (a ++ c) x with ⟨e, _⟩ | ⟨o, y, e1, hy1, hx1, e⟩
      · rw [e, dsl_snoc]
      · rw [e, e1, dsl_snoc, dsl_snoc]
        have hy := hall y (by rw [e1]; simp)
        refine ds_merge old _ y x hy1 hx1 ?_ ?_
        · rcases hy with ⟨_, h, _⟩ | ⟨h, _⟩ <;> omega
        · rcases hx with ⟨_, h, _⟩ | ⟨h, _⟩ <;> omega
theorem doo_nrm (l : List Oq) (old : List Tx) (h : right l = true) : doo (nrm l) old = doo l old := by
  have e : dsl old (nrm l) = dsl old l := dsl_nfo old l (right_al0 h)
  unfold doo
  rw [e, right_nrm h, h]

/-- what comes is of the steps, or was there -/
theorem ds_mem {old out out2 : List Tx} {p q : Nat} {x : Oq} (h : ds old (some (out, p)) x = some (out2, q)) : ∀ t ∈ out2, t ∈ out ∨ t ∈ old ∨ t = x.2.2 := by
  unfold ds at h
  simp only at h
  intro t ht
  split at h
  · cases h
    rcases List.mem_append.1 ht with h | h
    · exact Or.inl h
    · exact Or.inr (Or.inr (by simpa using h))
  · split at h
    · split at h
      · cases h
        rcases List.mem_append.1 ht with h | h
        · exact Or.inl h
        · exact Or.inr (Or.inl (List.mem_of_mem_drop (List.mem_of_mem_take h)))
      · cases h
    · split at h
      · cases h
        split at ht
        · exact Or.inl ht
        · rcases List.mem_append.1 ht with h | h
          · exact Or.inl h
          · exact Or.inr (Or.inr (by simpa using h))
      · cases h
theorem dsl_mem (old : List Tx) (l : List Oq) : ∀ out p, dsl old l = some (out, p) → ∀ t ∈ out, t ∈ old ∨ ∃ x ∈ l, t = x.2.2 := by
  refine snoc_ind (P := fun l => ∀ out p, dsl old l = some (out, p) → ∀ t ∈ out, t ∈ old ∨ ∃ x ∈ l, t = x.2.2) ?_ ?_ l
  · intro out p h
    simp only [dsl, List.foldl_nil, Option.some.injEq, Prod.mk.injEq] at h
    obtain ⟨rfl, rfl⟩ := h
    intro t ht; cases ht
  · intro l x ih out p h t ht
    rw [dsl_snoc] at h
    cases hd : dsl old l with
    | none => rw [hd] at h; cases h
    | some s =>
      obtain ⟨o, q⟩ := s
      rw [hd] at h
      rcases ds_mem h t ht with h | h | h
      · rcases ih o q hd t h with h | ⟨y, hy, e⟩
        · exact Or.inl h
        · exact Or.inr ⟨y, by simp [hy], e⟩
      · exact Or.inl h
      · exact Or.inr ⟨x, by simp, h⟩
/-- what is done keeps to what was -/
theorem doo_some {l : List Oq} {old a : List Tx} (h : doo l old = some a) : right l = true ∧ wh old = true ∧ ∃ out p, dsl old l = some (out, p) ∧ a = out ++ old.drop p ∧ wh a = true ∧ Dn old l out p := by
  unfold doo at h
  split at h
  · rename_i hc
    cases hd : dsl old l with
    | none => rw [hd] at h; cases h
    | some s =>
      obtain ⟨o, p⟩ := s
      rw [hd] at h
      simp only at h
      split at h
      · rename_i hw
        cases h
        exact ⟨hc.1, hc.2, o, p, rfl, rfl, hw, dn old l (right_al0 hc.1) o p hd⟩
      · cases h
  · cases h
theorem doo_len {l : List Oq} {old a : List Tx} (h : doo l old = some a) : a.length ≤ l.length + old.length := by
  obtain ⟨_, _, out, p, _, rfl, _, hd⟩ := doo_some h
  have h1 := hd.len
  have h2 := hd.le
  rw [List.length_append, List.length_drop]; omega
theorem doo_counts {l : List Oq} {old a : List Tx} (h : doo l old = some a) : ∃ n m : Nat, tot 3 l = n ∧ tot 4 l = m ∧ a.length + n = old.length + m ∧ n ≤ old.length ∧ m ≤ a.length ∧ ∀ i, n ≤ i → a[m + i - n]? = old[i]? := by
  obtain ⟨_, _, out, p, _, rfl, _, hd⟩ := doo_some h
  obtain ⟨h1, h2, h3, h4⟩ := hd
  refine ⟨p, out.length, h2.symm, h3.symm, by rw [List.length_append, List.length_drop]; omega, h1, by simp, fun i hi => ?_⟩
  rw [List.getElem?_append_right (by omega), List.getElem?_drop]
  congr 1
  omega
theorem ds_more (old : List Tx) (l : List Oq) : ∀ o p out q, l.foldl (ds old) (some (o, p)) = some (out, q) → ∃ r, out = o ++ r := by
  refine snoc_ind (P := fun l => ∀ o p out q, l.foldl (ds old) (some (o, p)) = some (out, q) → ∃ r, out = o ++ r) ?_ ?_ l
  · intro o p out q h
    simp only [List.foldl_nil, Option.some.injEq, Prod.mk.injEq] at h
    exact ⟨[], by rw [List.append_nil]; exact h.1.symm⟩
  · intro l x ih o p out q h
    rw [List.foldl_append, List.foldl_cons, List.foldl_nil] at h
    cases hd : l.foldl (ds old) (some (o, p)) with
    | none => rw [hd] at h; cases h
    | some s =>
      obtain ⟨o2, p2⟩ := s
      obtain ⟨r, rfl⟩ := ih o p o2 p2 hd
      rw [hd] at h
      unfold ds at h
      simp only at h
      split at h
      · cases h; exact ⟨r ++ [x.2.2], by simp⟩
      · split at h
        · split at h
          · cases h; exact ⟨_, List.append_assoc _ _ _⟩
          · cases h
        · split at h
          · cases h
            split
            · exact ⟨r, rfl⟩
            · exact ⟨r ++ [x.2.2], by simp⟩
          · cases h
/-- what is ahead of the first change is as it was -/
theorem doo_head {l : List Oq} {old a : List Tx} (h : doo l old = some a) {n : Int} {t : Tx} (hl : l[0]? = some (1, n, t)) : ∀ i : Nat, (i : Int) < n → a[i]? = old[i]? ∧ i < old.length ∧ i < a.length := by
  obtain ⟨hr, _, out, p, hd, rfl, _, _⟩ := doo_some h
  cases l with
  | nil => simp at hl
  | cons x l =>
    simp only [List.getElem?_cons_zero, Option.some.injEq] at hl
    subst hl
    unfold dsl at hd
    rw [List.foldl_cons] at hd
    intro i hi
    by_cases hle : ((0 : Nat) : Int) + n ≤ old.length
    · have hn : n = (n.toNat : Nat) := by omega
      rw [ds_skip n.toNat hn (by omega)] at hd
      obtain ⟨r, e⟩ := ds_more old l _ _ _ _ hd
      simp only [List.nil_append, List.drop_zero] at e
      refine ⟨?_, by omega, ?_⟩
      · rw [e, List.append_assoc, List.getElem?_append_left (by rw [List.length_take]; omega), List.getElem?_take, if_pos (by omega)]
      · rw [e]; simp only [List.length_append, List.length_take]; omega
    · rw [ds_skip_no hle, ds_none] at hd; cases hd
/-- a line that is known must be there -/
theorem doo_needs {l : List Oq} {i : Nat} {x1 x2 : Int} {x3 : Tx} (hx : l[i]? = some (x1, x2, x3)) (h1 : x1 ≠ 1) (h4 : x1 ≠ 4) (n : Nat) (hn : tot 3 (l.take i) = n) (old : List Tx) (ho : old[n]? ≠ some x3) : doo l old = none := by
  by_cases hr : right l = true
  · cases hd : dsl old (l.take i) with
    | none => exact doo_stop hx hd rfl
    | some s =>
      obtain ⟨o, p⟩ := s
      have h := (dn old (l.take i) (fun y hy => right_al0 hr y (List.mem_of_mem_take hy)) o p hd).o3
      obtain rfl : p = n := by omega
      exact doo_stop hx hd (ds_no h1 h4 ho)
  · unfold doo
    rw [if_neg (fun h => hr h.1)]
/-- where a known line is -/
theorem doo_there {l : List Oq} {old a : List Tx} (h : doo l old = some a) {i : Nat} {x1 x2 : Int} {x3 : Tx} (hx : l[i]? = some (x1, x2, x3)) (h1 : x1 ≠ 1) (h4 : x1 ≠ 4) (n : Nat) (hn : tot 3 (l.take i) = n) : old[n]? = some x3 := by
  by_cases ho : old[n]? = some x3
  · exact ho
  · rw [doo_needs hx h1 h4 n hn old ho] at h; cases h

end Go.Proofs.Ytcdjemheokmglab.Ol

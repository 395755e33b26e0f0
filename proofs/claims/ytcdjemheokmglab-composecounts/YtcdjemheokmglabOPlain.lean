
/-
  Plain laws of steps through a file: which may be, how many lines they have on either side, what they are in order; no condition but those that each states.
-/
import Derived.Test.YtcdjemheokmglabLBase
namespace Go.Proofs.Ytcdjemheokmglab.Ol
open Go.Proofs.Ytcdjemheokmglab.Ln

abbrev Tx := List UInt8
/-- a step: its kind, its number, its text -/
abbrev Oq := Int × Int × Tx

/-- is a step of a side? -/
def on (own : Int) (x : Oq) : Bool := x.1 == 1 || x.1 == 2 || x.1 == own
/-- is it an open line? -/
def opn (x : Oq) : Bool := !(x.1 == 1) && !cl x.2.2
/-- how many lines it has -/
def ln (own : Int) (x : Oq) : Int := if x.1 = 1 then max x.2.1 0 else if x.1 = 2 ∨ x.1 = own then 1 else 0
def tot (own : Int) : List Oq → Int
  | [] => 0
  | x :: l => ln own x + tot own l
/-- a count that stops -/
def cnt (own : Int) (l : List Oq) : Int := min (tot own l) 1099511627776
def alone (x : Oq) : Bool :=
  if x.1 = 1 then decide (1 ≤ x.2.1) && decide (x.2.1 ≤ 2147483648) && decide (x.2.2 = []) else (x.1 == 2 || x.1 == 3 || x.1 == 4) && x.2.1 == 0 && rt x.2.2
/-- how a side stands behind a step: ended, or not, or broken -/
def rs (own : Int) (s : Option Bool) (x : Oq) : Option Bool := if on own x then (if s = some false then some (opn x) else none) else s
def rsl (own : Int) (l : List Oq) : Option Bool := l.foldl (rs own) (some false)
def right (l : List Oq) : Bool := l.all alone && (rsl 3 l).isSome && (rsl 4 l).isSome && decide (tot 3 l ≤ 2147483648) && decide (tot 4 l ≤ 2147483648)
def chg (x : Oq) : Bool := x.1 == 3 || x.1 == 4
def chs (l : List Oq) : Nat := (l.filter chg).length
/-- the known texts but those of a kind -/
def kn (but : Int) (l : List Oq) : List Tx := (l.filter fun x => !(x.1 == 1) && !(x.1 == but)).map fun x => x.2.2
/-- a Skip or Keep behind steps -/
def stay (out : List Oq) (x : Oq) : List Oq :=
  match out.getLast? with
  | some y => if x.1 = 1 ∧ y.1 = 1 then out.dropLast ++ [(y.1, y.2.1 + x.2.1, y.2.2)] else out ++ [x]
  | none => out ++ [x]
def nst (s : List Oq × List Oq) (x : Oq) : List Oq × List Oq :=
  if x.1 = 3 then (s.1 ++ [x], s.2) else if x.1 = 4 then (s.1, s.2 ++ [x]) else (stay (s.1 ++ s.2) x, [])
def nfo (l : List Oq) : List Oq × List Oq := l.foldl nst ([], [])
def nrm (l : List Oq) : List Oq := (nfo l).1 ++ (nfo l).2

theorem snoc_ind {P : List Oq → Prop} (h0 : P []) (h1 : ∀ l x, P l → P (l ++ [x])) : ∀ l, P l := by
  intro l
  rw [← List.reverse_reverse l]
  induction l.reverse with
  | nil => exact h0
  | cons x r ih => rw [List.reverse_cons]; exact h1 _ _ ih

theorem ln_pos (own : Int) (x : Oq) : 0 ≤ ln own x := by
  unfold ln; split
  · omega
  · split <;> omega
theorem tot_pos (own : Int) (l : List Oq) : 0 ≤ tot own l := by
  induction l with
  | nil => exact Int.le_refl _
  | cons x l ih => have := ln_pos own x; simp only [tot]; omega
theorem tot_app (own : Int) (a b : List Oq) : tot own (a ++ b) = tot own a + tot own b := by
  induction a with
  | nil => simp [tot]
  | cons x l ih => simp only [List.cons_append, tot, ih]; omega
theorem tot_one (own : Int) (x : Oq) : tot own [x] = ln own x := by simp [tot]
theorem tot_snoc (own : Int) (a : List Oq) (x : Oq) : tot own (a ++ [x]) = tot own a + ln own x := by rw [tot_app, tot_one]
theorem cnt_snoc (own : Int) (a : List Oq) (x : Oq) : cnt own (a ++ [x]) = min (cnt own a + min (ln own x) 1099511627776) 1099511627776 := by
  have := ln_pos own x; have := tot_pos own a
  unfold cnt; rw [tot_snoc]; omega
theorem tot_le (own : Int) (l : List Oq) (x : Oq) (hx : x ∈ l) : ln own x ≤ tot own l := by
  induction l with
  | nil => simp at hx
  | cons y l ih =>
    have h1 := ln_pos own y; have h2 := tot_pos own l
    simp only [tot]
    rcases List.mem_cons.1 hx with rfl | h
    · omega
    · have := ih h; omega
theorem cnt_le (own : Int) (l : List Oq) : decide (cnt own l ≤ 2147483648) = decide (tot own l ≤ 2147483648) := by
  unfold cnt; rw [Bool.eq_iff_iff]; simp only [decide_eq_true_eq]; omega
theorem cnt_pos (own : Int) (l : List Oq) : 0 ≤ cnt own l ∧ cnt own l ≤ 1099511627776 := by
  have := tot_pos own l; unfold cnt; omega
theorem cnt_is (own : Int) (l : List Oq) (h : tot own l ≤ 2147483648) : cnt own l = tot own l := by unfold cnt; omega

theorem rsl_snoc (own : Int) (l : List Oq) (x : Oq) : rsl own (l ++ [x]) = rs own (rsl own l) x := by simp [rsl, List.foldl_append]
theorem rsl_off (own : Int) (c : List Oq) (h : ∀ y ∈ c, on own y = false) : ∀ s, c.foldl (rs own) s = s := by
  induction c with
  | nil => intro s; rfl
  | cons y c ih => intro s; simp only [List.foldl_cons, rs, h y (by simp)]; exact ih (fun z hz => h z (by simp [hz])) _
theorem chs_app (a b : List Oq) : chs (a ++ b) = chs a + chs b := by simp [chs, List.filter_append]
theorem kn_app (but : Int) (a b : List Oq) : kn but (a ++ b) = kn but a ++ kn but b := by simp [kn, List.filter_append]
theorem kn_off (but : Int) (c : List Oq) (h : ∀ y ∈ c, y.1 = 1 ∨ y.1 = but) : kn but c = [] := by
  induction c with
  | nil => rfl
  | cons y c ih =>
    have h1 := h y (by simp)
    have h2 := ih (fun z hz => h z (by simp [hz]))
    unfold kn at h2 ⊢
    rw [List.filter_cons]
    have : (!(y.1 == 1) && !(y.1 == but)) = false := by rcases h1 with e | e <;> simp [e]
    rw [this]; exact h2

theorem nfo_snoc (l : List Oq) (x : Oq) : nfo (l ++ [x]) = nst (nfo l) x := by simp [nfo, List.foldl_append]
theorem stay_cases (out : List Oq) (x : Oq) : (stay out x = out ++ [x] ∧ (x.1 = 1 → ∀ y, out.getLast? = some y → y.1 ≠ 1)) ∨ ∃ o y, out = o ++ [y] ∧ y.1 = 1 ∧ x.1 = 1 ∧ stay out x = o ++ [(y.1, y.2.1 + x.2.1, y.2.2)] := by
  unfold stay
  cases h : out.getLast? with
  | none => exact Or.inl ⟨rfl, fun _ y hy => by cases hy⟩
  | some y =>
    by_cases hk : x.1 = 1 ∧ y.1 = 1
    · obtain ⟨o, rfl⟩ := List.getLast?_eq_some_iff.1 h
      exact Or.inr ⟨o, y, rfl, hk.2, hk.1, by simp only [if_pos hk]; simp⟩
    · refine Or.inl ⟨by simp only [if_neg hk], fun hx z hz => ?_⟩
      cases hz
      exact fun e => hk ⟨hx, e⟩

/-- right by itself, but for how large the number is -/
def al0 (x : Oq) : Prop := (x.1 = 1 ∧ 1 ≤ x.2.1 ∧ x.2.2 = []) ∨ ((x.1 = 2 ∨ x.1 = 3 ∨ x.1 = 4) ∧ x.2.1 = 0 ∧ rt x.2.2 = true)
theorem al0_of {x : Oq} (h : alone x = true) : al0 x := by
  unfold alone at h
  split at h
  · rename_i e
    simp only [Bool.and_eq_true, decide_eq_true_eq] at h
    exact Or.inl ⟨e, h.1.1, h.2⟩
  · simp only [Bool.and_eq_true, Bool.or_eq_true, beq_iff_eq] at h
    exact Or.inr ⟨by omega, h.1.2, h.2⟩
theorem alone_of {x : Oq} (h : al0 x) (hn : x.2.1 ≤ 2147483648) : alone x = true := by
  unfold alone
  rcases h with ⟨h1, h2, h3⟩ | ⟨h1, h2, h3⟩
  · rw [if_pos h1]; simp [h2, h3, hn]
  · rw [if_neg (by omega)]
    simp only [Bool.and_eq_true, Bool.or_eq_true, beq_iff_eq]
    exact ⟨⟨by omega, h2⟩, h3⟩
/-- what putting in order keeps -/
structure Kept (l : List Oq) (s : List Oq × List Oq) : Prop where
  ins : ∀ y ∈ s.2, y.1 = 4
  al : ∀ y ∈ s.1 ++ s.2, al0 y
  t3 : tot 3 (s.1 ++ s.2) = tot 3 l
  t4 : tot 4 (s.1 ++ s.2) = tot 4 l
  r3 : rsl 3 (s.1 ++ s.2) = rsl 3 l
  r4 : rsl 4 (s.1 ++ s.2) = rsl 4 l
  ch : chs (s.1 ++ s.2) = chs l
  k3 : kn 3 (s.1 ++ s.2) = kn 3 l
  k4 : kn 4 (s.1 ++ s.2) = kn 4 l
  len : (s.1 ++ s.2).length ≤ l.length
theorem rsl_app (own : Int) (a b : List Oq) : rsl own (a ++ b) = b.foldl (rs own) (rsl own a) := by simp [rsl, List.foldl_append]
theorem kept (l : List Oq) : (∀ x ∈ l, al0 x) → Kept l (nfo l) := by
  refine snoc_ind (P := fun l => (∀ x ∈ l, al0 x) → Kept l (nfo l)) ?_ ?_ l
  · intro _
    exact ⟨by simp [nfo], by simp [nfo], rfl, rfl, rfl, rfl, rfl, rfl, rfl, Nat.le_refl _⟩
  · intro l x ih hal
    have h := ih (fun y hy => hal y (by simp [hy]))
    have hx := hal x (by simp)
    rw [nfo_snoc]
    generalize nfo l = s at h
    obtain ⟨a, c⟩ := s
    obtain ⟨ins, al, t3, t4, r3, r4, ch, k3, k4, len⟩ := h
    simp only at *
    unfold nst
    by_cases e3 : x.1 = 3
    · have o3 : ∀ y ∈ c, on 3 y = false := fun y hy => by simp [on, ins y hy]
      have o4 : on 4 x = false := by simp [on, e3]
      simp only [if_pos e3]
      refine ⟨ins, ?_, ?_, ?_, ?_, ?_, ?_, ?_, ?_, ?_⟩
      · intro y hy
        simp only [List.append_assoc, List.mem_append, List.mem_cons, List.not_mem_nil, or_false] at hy
        rcases hy with hy | rfl | hy
        · exact al y (by simp [hy])
        · exact hx
        · exact al y (by simp [hy])
      · have := t3; simp only [tot_app, tot_one] at this ⊢; omega
      · have := t4; simp only [tot_app, tot_one] at this ⊢; omega
      · rw [rsl_app, rsl_off 3 c o3, rsl_snoc, rsl_snoc, ← r3, rsl_app, rsl_off 3 c o3]
      · rw [rsl_app, rsl_snoc, rsl_snoc, ← r4, rsl_app]
        simp only [rs, o4]
        rfl
      · have := ch; simp only [chs_app] at this ⊢; omega
      · rw [kn_app, kn_app, kn_app, ← k3, kn_app, kn_off 3 [x] (by simp [e3])]; simp
      · rw [kn_app, kn_app, kn_app, ← k4, kn_app, kn_off 4 c (fun y hy => Or.inr (ins y hy))]; simp
      · simp only [List.length_append, List.length_cons, List.length_nil] at len ⊢; omega
    · by_cases e4 : x.1 = 4
      · simp only [if_neg e3, if_pos e4]
        refine ⟨?_, ?_, ?_, ?_, ?_, ?_, ?_, ?_, ?_, ?_⟩
        · intro y hy
          simp only [List.mem_append, List.mem_cons, List.not_mem_nil, or_false] at hy
          rcases hy with hy | rfl
          · exact ins y hy
          · exact e4
        · intro y hy
          simp only [← List.append_assoc] at hy
          rcases List.mem_append.1 hy with hy | hy
          · exact al y hy
          · simp at hy; subst hy; exact hx
        all_goals simp only [← List.append_assoc]
        · rw [tot_snoc, tot_snoc, t3]
        · rw [tot_snoc, tot_snoc, t4]
        · rw [rsl_snoc, rsl_snoc, r3]
        · rw [rsl_snoc, rsl_snoc, r4]
        · rw [chs_app _ [x], ch, chs_app]
        · rw [kn_app 3 _ [x], k3, kn_app]
        · rw [kn_app 4 _ [x], k4, kn_app]
        · simp only [List.length_append, List.length_cons, List.length_nil] at len ⊢; omega
      · simp only [if_neg e3, if_neg e4]
        rcases stay_cases (a ++ c) x with ⟨e, _⟩ | ⟨o, y, e1, hy1, hx1, e⟩
        · rw [e]
          refine ⟨by simp, ?_, ?_, ?_, ?_, ?_, ?_, ?_, ?_, ?_⟩
          · intro y hy
            simp only [List.append_nil] at hy
            rcases List.mem_append.1 hy with hy | hy
            · exact al y hy
            · simp at hy; subst hy; exact hx
          all_goals simp only [List.append_nil]
          · rw [tot_snoc, tot_snoc, t3]
          · rw [tot_snoc, tot_snoc, t4]
          · rw [rsl_snoc, rsl_snoc, r3]
          · rw [rsl_snoc, rsl_snoc, r4]
          · rw [chs_app _ [x], ch, chs_app]
          · rw [kn_app 3 _ [x], k3, kn_app]
          · rw [kn_app 4 _ [x], k4, kn_app]
          · simp only [List.length_append, List.length_cons, List.length_nil] at len ⊢; omega
        · rw [e]
          rw [e1] at al t3 t4 r3 r4 ch k3 k4 len
          have hy := al y (by simp)
          have y1 : 1 ≤ y.2.1 ∧ y.2.2 = [] := by
            rcases hy with ⟨_, h2, h3⟩ | ⟨h1, _⟩
            · exact ⟨h2, h3⟩
            · omega
          have x1 : 1 ≤ x.2.1 ∧ x.2.2 = [] := by
            rcases hx with ⟨_, h2, h3⟩ | ⟨h1, _⟩
            · exact ⟨h2, h3⟩
            · omega
          have hln : ∀ own, ln own (y.1, y.2.1 + x.2.1, y.2.2) = ln own y + ln own x := fun own => by
            simp only [ln, if_pos hy1, if_pos hx1]; omega
          have hrs : ∀ own s, rs own s (y.1, y.2.1 + x.2.1, y.2.2) = rs own (rs own s y) x := fun own s => by
            have o1 : on own y = true := by simp [on, hy1]
            have o2 : on own x = true := by simp [on, hx1]
            have o3 : on own (y.1, y.2.1 + x.2.1, y.2.2) = true := by simp [on, hy1]
            have p1 : opn y = false := by simp [opn, hy1]
            have p2 : opn x = false := by simp [opn, hx1]
            have p3 : opn (y.1, y.2.1 + x.2.1, y.2.2) = false := by simp [opn, hy1]
            simp only [rs, o1, o2, o3, p1, p2, p3, if_true]
            by_cases hs : s = some false
            · simp [hs]
            · simp [hs]
          refine ⟨by simp, ?_, ?_, ?_, ?_, ?_, ?_, ?_, ?_, ?_⟩
          · intro z hz
            simp only [List.append_nil] at hz
            rcases List.mem_append.1 hz with hz | hz
            · exact al z (by simp [hz])
            · simp at hz; subst hz; exact Or.inl ⟨hy1, by show 1 ≤ y.2.1 + x.2.1; omega, y1.2⟩
          all_goals simp only [List.append_nil]
          · rw [tot_snoc, tot_snoc, ← t3, tot_snoc, hln]; omega
          · rw [tot_snoc, tot_snoc, ← t4, tot_snoc, hln]; omega
          · rw [rsl_snoc, rsl_snoc, ← r3, rsl_snoc, hrs]
          · rw [rsl_snoc, rsl_snoc, ← r4, rsl_snoc, hrs]
          · rw [chs_app, chs_app, ← ch, chs_app]
            simp [chs, chg, hy1, hx1]
          · rw [kn_app, kn_app, ← k3, kn_app, kn_off 3 [x] (by simp [hx1]), kn_off 3 [y] (by simp [hy1]), kn_off 3 [_] (by simp [hy1])]; simp
          · rw [kn_app, kn_app, ← k4, kn_app, kn_off 4 [x] (by simp [hx1]), kn_off 4 [y] (by simp [hy1]), kn_off 4 [_] (by simp [hy1])]; simp
          · simp only [List.length_append, List.length_cons, List.length_nil] at len ⊢; omega

theorem right_parts {l : List Oq} (h : right l = true) : (∀ x ∈ l, alone x = true) ∧ (rsl 3 l).isSome = true ∧ (rsl 4 l).isSome = true ∧ tot 3 l ≤ 2147483648 ∧ tot 4 l ≤ 2147483648 := by
  unfold right at h
  simp only [Bool.and_eq_true, decide_eq_true_eq, List.all_eq_true] at h
  exact ⟨h.1.1.1.1, h.1.1.1.2, h.1.1.2, h.1.2, h.2⟩
theorem right_al0 {l : List Oq} (h : right l = true) : ∀ x ∈ l, al0 x := fun x hx => al0_of ((right_parts h).1 x hx)
theorem right_nrm {l : List Oq} (h : right l = true) : right (nrm l) = true := by
  obtain ⟨h1, h2, h3, h4, h5⟩ := right_parts h
  have hk := kept l (right_al0 h)
  unfold right nrm
  simp only [Bool.and_eq_true, decide_eq_true_eq, List.all_eq_true]
  rw [hk.r3, hk.r4, hk.t3, hk.t4]
  refine ⟨⟨⟨⟨fun x hx => ?_, h2⟩, h3⟩, h4⟩, h5⟩
  have ha := hk.al x hx
  refine alone_of ha ?_
  rcases ha with ⟨e, e2, _⟩ | ⟨_, e, _⟩
  · have := tot_le 3 _ x hx
    rw [hk.t3] at this
    simp only [ln, if_pos e] at this
    omega
  · omega
/-- two Skips together are not too large -/
theorem merge_fits {B : Int} {l a b : List Oq} {x : Oq} (hal : ∀ y ∈ l, al0 y) (ht : tot 3 l ≤ B) (hl : l = a ++ x :: b) (hx : x.1 = 1) {o : List Oq} {y : Oq} (ho : (nfo a).1 ++ (nfo a).2 = o ++ [y]) (hy : y.1 = 1) :
    1 ≤ y.2.1 ∧ 1 ≤ x.2.1 ∧ y.2.1 + x.2.1 ≤ B := by
  have hk := kept a (fun z hz => hal z (by rw [hl]; simp [hz]))
  have e1 := hk.t3
  rw [ho, tot_snoc] at e1
  rw [hl, tot_app] at ht
  simp only [tot] at ht
  have p1 := tot_pos 3 o
  have p2 := tot_pos 3 b
  have ax := hal x (by rw [hl]; simp)
  have ay := hk.al y (by rw [ho]; simp)
  have bx : 1 ≤ x.2.1 := by rcases ax with ⟨_, h, _⟩ | ⟨h, _⟩ <;> omega
  have by_ : 1 ≤ y.2.1 := by rcases ay with ⟨_, h, _⟩ | ⟨h, _⟩ <;> omega
  simp only [ln, if_pos hx] at ht
  simp only [ln, if_pos hy] at e1
  omega

/-- may a kind stand behind another, in order? -/
def okp (a : Option Int) (k : Int) : Bool := !(a == some 1 && k == 1) && !(a == some 4 && k == 3)
def os (st : Option Int × Bool) (x : Oq) : Option Int × Bool := (some x.1, st.2 && okp st.1 x.1)
def osl (l : List Oq) : Option Int × Bool := l.foldl os (none, true)
theorem osl_snoc (l : List Oq) (x : Oq) : osl (l ++ [x]) = os (osl l) x := by simp [osl, List.foldl_append]
theorem osl_fst (l : List Oq) : (osl l).1 = l.getLast?.map (·.1) := by
  refine snoc_ind (P := fun l => (osl l).1 = l.getLast?.map (·.1)) rfl ?_ l
  intro l x _
  rw [osl_snoc]; simp [os]
theorem osl_ins (c : List Oq) (h : ∀ y ∈ c, y.1 = 4) : ∀ st, (c.foldl os st).2 = st.2 := by
  induction c with
  | nil => intro st; rfl
  | cons y c ih =>
    intro st
    rw [List.foldl_cons, ih (fun z hz => h z (by simp [hz]))]
    simp [os, okp, h y (by simp)]
theorem osl_app (a b : List Oq) : osl (a ++ b) = b.foldl os (osl a) := by simp [osl, List.foldl_append]
theorem nfo_ins (l : List Oq) : ∀ y ∈ (nfo l).2, y.1 = 4 := by
  refine snoc_ind (P := fun l => ∀ y ∈ (nfo l).2, y.1 = 4) (by simp [nfo]) ?_ l
  intro l x ih y hy
  rw [nfo_snoc] at hy
  unfold nst at hy
  split at hy
  · exact ih y hy
  · split at hy
    · simp only [List.mem_append, List.mem_cons, List.not_mem_nil, or_false] at hy
      rcases hy with hy | rfl
      · exact ih y hy
      · assumption
    · simp at hy
theorem ord_nrm (l : List Oq) : (osl (nrm l)).2 = true ∧ ∀ y, (nfo l).1.getLast? = some y → y.1 ≠ 4 := by
  refine snoc_ind (P := fun l => (osl (nrm l)).2 = true ∧ ∀ y, (nfo l).1.getLast? = some y → y.1 ≠ 4) ⟨rfl, by simp [nfo]⟩ ?_ l
  intro l x ⟨ih1, ih2⟩
  have hins := nfo_ins l
  unfold nrm at ih1 ⊢
  rw [nfo_snoc]
  generalize nfo l = s at ih1 ih2 hins
  obtain ⟨a, c⟩ := s
  simp only at *
  unfold nst
  have ha : (osl a).2 = true := by rw [osl_app, osl_ins c hins] at ih1; exact ih1
  by_cases e3 : x.1 = 3
  · simp only [if_pos e3]
    refine ⟨?_, ?_⟩
    · rw [osl_app, osl_ins c hins, osl_snoc]
      simp only [os, ha, Bool.true_and, okp, osl_fst, e3]
      cases h : a.getLast? with
      | none => simp
      | some y => have := ih2 y h; simp [this]
    · intro y hy
      rw [List.getLast?_concat] at hy
      cases hy
      omega
  · by_cases e4 : x.1 = 4
    · simp only [if_neg e3, if_pos e4]
      refine ⟨?_, ih2⟩
      rw [osl_app, osl_ins _ ?_]
      · exact ha
      · intro y hy
        simp only [List.mem_append, List.mem_cons, List.not_mem_nil, or_false] at hy
        rcases hy with hy | rfl
        · exact hins y hy
        · exact e4
    · simp only [if_neg e3, if_neg e4, List.append_nil]
      rcases stay_cases (a ++ c) x with ⟨e, hk⟩ | ⟨o, y, e1, hy1, hx1, e⟩
      · rw [e]
        refine ⟨?_, ?_⟩
        · rw [osl_snoc]
          simp only [os, ih1, Bool.true_and, okp, osl_fst]
          cases h : (a ++ c).getLast? with
          | none => simp
          | some y =>
            by_cases h1 : x.1 = 1
            · have := hk h1 y h
              simp [this, h1]
            · simp [h1, e3]
        · intro y hy
          rw [List.getLast?_concat] at hy
          cases hy
          exact e4
      · rw [e]
        rw [e1, osl_snoc] at ih1
        refine ⟨?_, ?_⟩
        · rw [osl_snoc]; exact ih1
        · intro z hz
          rw [List.getLast?_concat] at hz
          cases hz
          show y.1 ≠ 4
          omega
theorem nrm_of_ord (l : List Oq) : (osl l).2 = true → nrm l = l := by
  refine snoc_ind (P := fun l => (osl l).2 = true → nrm l = l) (fun _ => rfl) ?_ l
  intro l x ih h
  rw [osl_snoc] at h
  simp only [os, Bool.and_eq_true, osl_fst] at h
  obtain ⟨h1, h2⟩ := h
  have hl := ih h1
  have hins := nfo_ins l
  unfold nrm at hl ⊢
  rw [nfo_snoc]
  generalize nfo l = s at hl hins
  obtain ⟨a, c⟩ := s
  simp only at *
  unfold nst
  by_cases e3 : x.1 = 3
  · simp only [if_pos e3]
    rcases List.eq_nil_or_concat c with rfl | ⟨c0, y, rfl⟩
    · rw [List.append_nil] at hl ⊢; rw [hl]
    · exfalso
      rw [← hl, List.concat_eq_append, ← List.append_assoc, List.getLast?_concat] at h2
      have := hins y (by simp)
      simp [okp, this, e3] at h2
  · by_cases e4 : x.1 = 4
    · simp only [if_neg e3, if_pos e4]
      rw [← List.append_assoc, hl]
    · simp only [if_neg e3, if_neg e4, List.append_nil]
      rw [hl]
      rcases stay_cases l x with ⟨e, _⟩ | ⟨o, y, e1, hy1, hx1, e⟩
      · exact e
      · exfalso
        rw [e1, List.getLast?_concat] at h2
        simp [okp, hy1, hx1] at h2
theorem nrm_nrm (l : List Oq) : nrm (nrm l) = nrm l := nrm_of_ord _ (ord_nrm l).1

end Go.Proofs.Ytcdjemheokmglab.Ol

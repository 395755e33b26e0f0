/-
  Expressions read into nodes: numbers, times, atoms, pieces, branches, and how far each reading comes; how large and how deep a node is, and which may be; no conditions.
-/
import Derived.Test.YtjlihidmohokhaaSPlain
namespace Go.Proofs.Ytjlihidmohokhaa.Gl

/-! numbers -/
def dig (b : UInt8) : Bool := decide (48 ≤ b.toNat) && decide (b.toNat ≤ 57)
def st (n : Nat) (b : UInt8) : Nat := min (n * 10 + (b.toNat - 48)) 2147483649
def rd (l : Tx) : Nat := l.foldl st 0
def ds (l : Tx) : Tx := l.takeWhile dig
/-- the number at a place, where it ends, the error's number -/
def read (l : Tx) (k : Nat) : Int × Int × Int :=
  if ds (l.drop k) = [] then (0, 0, 2)
  else if 2147483648 < rd (ds (l.drop k)) then (0, 0, 4)
  else (rd (ds (l.drop k)), (k : Int) + (ds (l.drop k)).length, 0)
theorem dig_lo {b : UInt8} (h : dig b = true) : 48 ≤ b.toNat := by simp [dig] at h; exact h.1
theorem dig_hi {b : UInt8} (h : dig b = true) : b.toNat ≤ 57 := by simp [dig] at h; exact h.2
theorem ds_cons_dig {b : UInt8} {l : Tx} (h : dig b = true) : ds (b :: l) = b :: ds l := by simp [ds, h]
theorem ds_cons_no {b : UInt8} {l : Tx} (h : dig b = false) : ds (b :: l) = [] := by simp [ds, h]
theorem ds_step {l : Tx} {e : Nat} {b : UInt8} (hb : l[e]? = some b) (h : dig b = true) : ds (l.drop e) = b :: ds (l.drop (e + 1)) := by
  obtain ⟨he, rfl⟩ := List.getElem?_eq_some_iff.1 hb
  rw [List.drop_eq_getElem_cons he, ds_cons_dig h]
theorem ds_stop {l : Tx} {e : Nat} {b : UInt8} (hb : l[e]? = some b) (h : dig b = false) : ds (l.drop e) = [] := by
  obtain ⟨he, rfl⟩ := List.getElem?_eq_some_iff.1 hb
  rw [List.drop_eq_getElem_cons he, ds_cons_no h]
theorem ds_end {l : Tx} {e : Nat} (h : l.length ≤ e) : ds (l.drop e) = [] := by
  rw [List.drop_of_length_le h]; rfl
theorem st_le (n : Nat) (b : UInt8) : st n b ≤ 2147483649 := by unfold st; omega
theorem fold_le (l : Tx) (n : Nat) (h : n ≤ 2147483649) : l.foldl st n ≤ 2147483649 := by
  induction l generalizing n with
  | nil => exact h
  | cons b l ih => exact ih _ (st_le n b)
theorem rd_le (l : Tx) : rd l ≤ 2147483649 := fold_le l 0 (by omega)
theorem ds_le (l : Tx) : (ds l).length ≤ l.length := by
  unfold ds
  exact (List.takeWhile_sublist dig).length_le

/-- what stands between the brackets of times: one number of up to three digits -/
def countR (l : Tx) : Option (Nat × Nat) :=
  if ds l = [] ∨ 3 < (ds l).length ∨ 200 < rd (ds l) then none else some (rd (ds l), (ds l).length)
/-- behind the bracket: from, to, and how many signs it takes -/
def timesR (l : Tx) : Option (Nat × Int × Nat) :=
  match countR l with
  | none => none
  | some (lo, m) =>
    if (l.drop m).getD 0 0 = 44 then
      if (l.drop (m + 1)).getD 0 0 = 125 then some (lo, -1, m + 2)
      else match countR (l.drop (m + 1)) with
        | none => none
        | some (hi, m2) => if lo ≤ hi ∧ (l.drop (m + 1 + m2)).getD 0 0 = 125 then some (lo, (hi : Int), m + 1 + m2 + 1) else none
    else if (l.drop m).getD 0 0 = 125 then some (lo, (lo : Int), m + 1) else none

/-! nodes -/
inductive Nd where
  | mk (kind : Int) (set : Bs) (kids : List Nd) (lo hi : Int) : Nd
/-- what is read: a thing and how many signs it takes, or where something does not fit, and why -/
inductive Rs (α : Type) where
  | ok (x : α) (m : Nat) : Rs α
  | er (m c : Nat) : Rs α
def Rs.far {α : Type} (k : Nat) : Rs α → Rs α
  | .ok x m => .ok x (k + m)
  | .er m c => .er (k + m) c
def Rs.map {α β : Type} (f : α → β) : Rs α → Rs β
  | .ok x m => .ok (f x) m
  | .er m c => .er m c
def Rs.len {α : Type} : Rs α → Nat
  | .ok _ m => m
  | .er m _ => m

def setN (f : Bs) : Nd := .mk 2 f [] 0 0
def plainN (k : Int) : Nd := .mk k none_ [] 0 0
def timesN (d : Nd) (lo hi : Int) : Nd := .mk 5 none_ [d] lo hi
def together (k : Int) (l : List Nd) : Nd :=
  match l with
  | [d] => d
  | l => .mk k none_ l 0 0
def catOf (l : List Nd) : Nd := if l = [] then plainN 1 else together 3 l
def othersB (f : Bs) : Bs := butB (notB f) 10

/-- is the set one of others -/
def negE (l : Tx) : Bool := l.getD 0 0 == 94
def negN (l : Tx) : Nat := if negE l = true then 1 else 0
/-- a set, behind its bracket -/
def setE (l : Tx) : Option (Bs × Nat) :=
  (setGo false (l.length + 1) true (l.drop (negN l)) none_).map fun r => (if negE l = true then othersB r.1 else r.1, negN l + r.2)

def special (c : UInt8) : Bool := c == 41 || c == 42 || c == 43 || c == 63 || c == 123 || c == 124
def atomE (g : Tx → Rs Nd) (l : Tx) : Rs Nd :=
  let c := l.getD 0 0
  if c = 40 then g l
  else if c = 91 then
    match setE (l.drop 1) with
    | none => .er 0 2
    | some r => .ok (setN r.1) (1 + r.2)
  else if special c = true then .er 0 2
  else if c = 94 then .ok (plainN 6) 1
  else if c = 36 then .ok (plainN 7) 1
  else if c = 46 then .ok (setN (othersB none_)) 1
  else if c = 92 then (if l.length < 2 then .er 1 2 else .ok (setN (spn (l.getD 1 0).toNat (l.getD 1 0).toNat)) 2)
  else .ok (setN (spn c.toNat c.toNat)) 1
/-- how many times an atom comes -/
def postE : Nat → Nd → Tx → Rs Nd
  | 0, d, _ => .ok d 0
  | n + 1, d, l =>
    if l.getD 0 0 = 42 then (postE n (timesN d 0 (-1)) (l.drop 1)).far 1
    else if l.getD 0 0 = 43 then (postE n (timesN d 1 (-1)) (l.drop 1)).far 1
    else if l.getD 0 0 = 63 then (postE n (timesN d 0 1) (l.drop 1)).far 1
    else if l.getD 0 0 = 123 then
      match timesR (l.drop 1) with
      | none => .er 0 2
      | some r => (postE n (timesN d r.1 r.2.1) (l.drop (1 + r.2.2))).far (1 + r.2.2)
    else .ok d 0
def pieceE (g : Tx → Rs Nd) (l : Tx) : Rs Nd :=
  match atomE g l with
  | .er m c => .er m c
  | .ok d m => (postE (l.length + 1) d (l.drop m)).far m
def ends (l : Tx) : Bool := l.isEmpty || l.getD 0 0 == 124 || l.getD 0 0 == 41
def piecesE (g : Tx → Rs Nd) : Nat → Tx → Rs (List Nd)
  | 0, _ => .ok [] 0
  | n + 1, l =>
    if ends l = true then .ok [] 0
    else match pieceE g l with
      | .er m c => .er m c
      | .ok d m => ((piecesE g n (l.drop m)).map (d :: ·)).far m
def branchE (g : Tx → Rs Nd) (l : Tx) : Rs Nd := (piecesE g (l.length + 1) l).map catOf
def branchesE (g : Tx → Rs Nd) : Nat → Tx → Rs (List Nd)
  | 0, _ => .ok [] 0
  | n + 1, l =>
    match branchE g l with
    | .er m c => .er m c
    | .ok d m => if (l.drop m).getD 0 0 = 124 then ((branchesE g n (l.drop (m + 1))).map (d :: ·)).far (m + 1) else .ok [d] m
def exprE (g : Tx → Rs Nd) (l : Tx) : Rs Nd := (branchesE g (l.length + 1) l).map (together 4)
/-- a group, where so many more may be within one another -/
def grpE : Nat → Tx → Rs Nd
  | 0, _ => .er 0 4
  | d + 1, l =>
    match exprE (grpE d) (l.drop 1) with
    | .er m c => .er (1 + m) c
    | .ok x m => if (l.drop (1 + m)).getD 0 0 = 41 then .ok x (m + 2) else .er (1 + m) 2

/-! how large, how deep, and which may be -/
def reps (k : Int) (lo hi : Int) : Nat := if k = 5 then (max (max lo hi) 1).toNat else 1
mutual
def sizeN : Nd → Nat
  | .mk k _ kids lo hi => 1 + reps k lo hi * sizes kids
def sizes : List Nd → Nat
  | [] => 0
  | d :: l => sizeN d + sizes l
end
mutual
def cntN : Nd → Nat
  | .mk _ _ kids _ _ => 1 + cnts kids
def cnts : List Nd → Nat
  | [] => 0
  | d :: l => cntN d + cnts l
end
def noSet (f : Bs) : Bool := word f 0 == 0 && word f 1 == 0 && word f 2 == 0 && word f 3 == 0
def okTimes (lo hi : Int) : Bool := decide (0 ≤ lo) && decide (lo ≤ 200) && (hi == -1 || (decide (lo ≤ hi) && decide (hi ≤ 200)))
def noTimes (lo hi : Int) : Bool := lo == 0 && hi == 0
/-- has a node what its kind has -/
def aloneN (k : Int) (f : Bs) (n : Nat) (lo hi : Int) : Bool :=
  if k = 1 ∨ k = 6 ∨ k = 7 then n == 0 && noSet f && noTimes lo hi
  else if k = 2 then n == 0 && noTimes lo hi
  else if k = 3 ∨ k = 4 then decide (2 ≤ n) && noSet f && noTimes lo hi
  else if k = 5 then n == 1 && noSet f && okTimes lo hi
  else false
mutual
def withinN : Nd → Nat → Bool
  | .mk k f kids lo hi, most => aloneN k f kids.length lo hi && !(most == 0 && decide (0 < kids.length)) && withins kids (most - 1)
def withins : List Nd → Nat → Bool
  | [], _ => true
  | d :: l, most => withinN d most && withins l most
end
def rightN (d : Nd) : Bool := decide (sizeN d ≤ 20000) && withinN d 200
/-- a whole expression -/
def topE (l : Tx) : Rs Nd :=
  if 1000 < l.length then .er 0 5
  else match exprE (grpE 30) l with
    | .er m c => .er m c
    | .ok d m => if m < l.length then .er m 2 else if rightN d = true then .ok d m else .er 0 4

/-! how far a reading comes -/
theorem Rs.len_far {α : Type} (k : Nat) (r : Rs α) : (r.far k).len = k + r.len := by cases r <;> rfl
theorem Rs.len_map {α β : Type} (f : α → β) (r : Rs α) : (r.map f).len = r.len := by cases r <;> rfl
theorem getD_pos {l : Tx} {c : UInt8} (h : l.getD 0 0 = c) (hc : c ≠ 0) : 0 < l.length := by
  cases l with
  | nil => exact absurd h.symm hc
  | cons a t => simp
theorem countR_le {l : Tx} {r} (h : countR l = some r) : 1 ≤ r.2 ∧ r.2 ≤ l.length := by
  unfold countR at h
  split at h
  · cases h
  · rename_i hn
    cases h
    have : ds l ≠ [] := fun e => hn (Or.inl e)
    exact ⟨List.length_pos_iff.2 this, ds_le l⟩
theorem timesR_le {l : Tx} {r} (h : timesR l = some r) : 1 ≤ r.2.2 ∧ r.2.2 ≤ l.length := by
  unfold timesR at h
  cases hc : countR l with
  | none => rw [hc] at h; cases h
  | some q =>
    obtain ⟨lo, m⟩ := q
    rw [hc] at h
    have h1 := countR_le hc
    simp only [] at h h1
    split at h
    · rename_i h44
      split at h
      · rename_i h125
        have := getD_pos h125 (by decide)
        rw [List.length_drop] at this
        cases h
        exact ⟨by simp, by simp; omega⟩
      · cases hc2 : countR (l.drop (m + 1)) with
        | none => rw [hc2] at h; cases h
        | some q2 =>
          obtain ⟨hi, m2⟩ := q2
          rw [hc2] at h
          simp only [] at h
          split at h
          · rename_i h2
            have := getD_pos h2.2 (by decide)
            rw [List.length_drop] at this
            cases h
            exact ⟨by simp, by simp; omega⟩
          · cases h
    · split at h
      · rename_i h125
        have := getD_pos h125 (by decide)
        rw [List.length_drop] at this
        cases h
        exact ⟨by simp, by simp; omega⟩
      · cases h
theorem negN_le (l : Tx) : negN l ≤ l.length := by
  unfold negN
  split
  · rename_i h
    unfold negE at h
    exact getD_pos (by simpa using h) (by decide)
  · omega
theorem setE_le {l : Tx} {r} (h : setE l = some r) : 1 ≤ r.2 ∧ r.2 ≤ l.length := by
  unfold setE at h
  cases hr : setGo false (l.length + 1) true (l.drop (negN l)) none_ with
  | none => rw [hr] at h; cases h
  | some q =>
    rw [hr] at h
    simp at h
    have := setGo_len _ _ _ _ _ _ hr
    have := negN_le l
    rw [List.length_drop] at *
    subst h
    simp
    omega
/-- a reading of a group comes no further than the text, and takes a sign at least -/
def Tame (g : Tx → Rs Nd) : Prop := ∀ l, l ≠ [] → (g l).len ≤ l.length ∧ ∀ x m, g l = .ok x m → 1 ≤ m
theorem atomE_tame {g : Tx → Rs Nd} (hg : Tame g) (l : Tx) (hl : l ≠ []) : (atomE g l).len ≤ l.length ∧ ∀ x m, atomE g l = .ok x m → 1 ≤ m := by
  have hp := List.length_pos_iff.2 hl
  unfold atomE
  simp only []
  split
  · exact hg l hl
  split
  · cases hs : setE (l.drop 1) with
    | none => exact ⟨Nat.zero_le _, fun x m h => by cases h⟩
    | some r =>
      have := setE_le hs
      rw [List.length_drop] at this
      exact ⟨by simp only [Rs.len]; omega, fun x m h => by cases h; omega⟩
  split
  · exact ⟨Nat.zero_le _, fun x m h => by cases h⟩
  split
  · exact ⟨hp, fun x m h => by cases h; omega⟩
  split
  · exact ⟨hp, fun x m h => by cases h; omega⟩
  split
  · exact ⟨hp, fun x m h => by cases h; omega⟩
  split
  · split
    · exact ⟨hp, fun x m h => by cases h⟩
    · exact ⟨by simp only [Rs.len]; omega, fun x m h => by cases h; omega⟩
  · exact ⟨hp, fun x m h => by cases h; omega⟩
theorem postE_le : ∀ n d l, (postE n d l).len ≤ l.length := by
  intro n
  induction n with
  | zero => intro d l; exact Nat.zero_le _
  | succ n ih =>
    intro d l
    unfold postE
    split
    · rename_i h
      have := getD_pos h (by decide)
      have h2 := ih (timesN d 0 (-1)) (l.drop 1)
      rw [Rs.len_far]; rw [List.length_drop] at h2; omega
    split
    · rename_i h
      have := getD_pos h (by decide)
      have h2 := ih (timesN d 1 (-1)) (l.drop 1)
      rw [Rs.len_far]; rw [List.length_drop] at h2; omega
    split
    · rename_i h
      have := getD_pos h (by decide)
      have h2 := ih (timesN d 0 1) (l.drop 1)
      rw [Rs.len_far]; rw [List.length_drop] at h2; omega
    split
    · rename_i h
      have := getD_pos h (by decide)
      cases ht : timesR (l.drop 1) with
      | none => exact Nat.zero_le _
      | some r =>
        have h3 := timesR_le ht
        simp only []
        have h2 := ih (timesN d r.1 r.2.1) (l.drop (1 + r.2.2))
        rw [Rs.len_far]; rw [List.length_drop] at h2 h3; omega
    · exact Nat.zero_le _
theorem pieceE_tame {g : Tx → Rs Nd} (hg : Tame g) (l : Tx) (hl : l ≠ []) : (pieceE g l).len ≤ l.length ∧ ∀ x m, pieceE g l = .ok x m → 1 ≤ m := by
  have ha := atomE_tame hg l hl
  unfold pieceE
  cases hat : atomE g l with
  | er m c => rw [hat] at ha; exact ⟨ha.1, fun x m h => by cases h⟩
  | ok d m =>
    rw [hat] at ha
    have h1 := ha.2 d m rfl
    have h2 := ha.1
    simp only [Rs.len] at h2
    simp only []
    have h3 := postE_le (l.length + 1) d (l.drop m)
    rw [List.length_drop] at h3
    refine ⟨by rw [Rs.len_far]; omega, fun x k h => ?_⟩
    cases hp : postE (l.length + 1) d (l.drop m) with
    | er a b => rw [hp] at h; cases h
    | ok a b => rw [hp] at h; cases h; omega
theorem ends_ne {l : Tx} (h : ends l = false) : l ≠ [] := fun e => by subst e; cases h
theorem piecesE_le {g : Tx → Rs Nd} (hg : Tame g) : ∀ n l, (piecesE g n l).len ≤ l.length := by
  intro n
  induction n with
  | zero => intro l; exact Nat.zero_le _
  | succ n ih =>
    intro l
    unfold piecesE
    split
    · exact Nat.zero_le _
    · rename_i he
      have hp := pieceE_tame hg l (ends_ne (by simpa using he))
      cases hpe : pieceE g l with
      | er m c => rw [hpe] at hp; exact hp.1
      | ok d m =>
        rw [hpe] at hp
        have h1 := hp.1
        simp only [Rs.len] at h1
        simp only []
        rw [Rs.len_far, Rs.len_map]
        have := ih (l.drop m)
        rw [List.length_drop] at this
        omega
theorem branchE_le {g : Tx → Rs Nd} (hg : Tame g) (l : Tx) : (branchE g l).len ≤ l.length := by
  unfold branchE
  rw [Rs.len_map]
  exact piecesE_le hg _ _
theorem branchesE_le {g : Tx → Rs Nd} (hg : Tame g) : ∀ n l, (branchesE g n l).len ≤ l.length := by
  intro n
  induction n with
  | zero => intro l; exact Nat.zero_le _
  | succ n ih =>
    intro l
    have hb := branchE_le hg l
    unfold branchesE
    cases hbe : branchE g l with
    | er m c => rw [hbe] at hb; exact hb
    | ok d m =>
      rw [hbe] at hb
      simp only [Rs.len] at hb
      simp only []
      split
      · rename_i h
        have h1 := getD_pos h (by decide)
        rw [List.length_drop] at h1
        rw [Rs.len_far, Rs.len_map]
        have := ih (l.drop (m + 1))
        rw [List.length_drop] at this
        omega
      · exact hb
theorem exprE_le {g : Tx → Rs Nd} (hg : Tame g) (l : Tx) : (exprE g l).len ≤ l.length := by
  unfold exprE
  rw [Rs.len_map]
  exact branchesE_le hg _ _
theorem grpE_tame (d : Nat) : Tame (grpE d) := by
  induction d with
  | zero => intro l hl; exact ⟨Nat.zero_le _, fun x m h => by cases h⟩
  | succ d ih =>
    intro l hl
    have hp := List.length_pos_iff.2 hl
    have he := exprE_le ih (l.drop 1)
    rw [List.length_drop] at he
    unfold grpE
    cases hx : exprE (grpE d) (l.drop 1) with
    | er m c => rw [hx] at he; simp only [Rs.len] at he ⊢; exact ⟨by omega, fun x m h => by cases h⟩
    | ok x m =>
      rw [hx] at he
      simp only [Rs.len] at he
      simp only []
      split
      · rename_i h
        have := getD_pos h (by decide)
        rw [List.length_drop] at this
        exact ⟨by simp only [Rs.len]; omega, fun x m h => by cases h; omega⟩
      · exact ⟨by simp only [Rs.len]; omega, fun x m h => by cases h⟩
end Go.Proofs.Ytjlihidmohokhaa.Gl

/-
  Plain arithmetic and lists, nothing of a program: what reading a number at a place, writing a number, cutting at a byte, a range and a list of ranges are, and what holds of them; no condition.
-/
import Derived.Lib.ItoaNum
import Derived.Lib.SplitLaws
import Derived.Lib.CutLaws
namespace Go.Proofs.YtdlmddeiopdioaaDoor.Nm
open Go

/-- is a byte a digit -/
def dig (b : UInt8) : Bool := decide (48 ≤ b.toNat) && decide (b.toNat ≤ 57)
/-- one digit more, held at one above the greatest number -/
def st (n : Nat) (b : UInt8) : Nat := min (n * 10 + (b.toNat - 48)) 2147483649
def rd (l : List UInt8) : Nat := l.foldl st 0
def ds (l : List UInt8) : List UInt8 := l.takeWhile dig
/-- the number at a place, where it ends, the error's number -/
def read (l : List UInt8) (at' : Int) : Int × Int × Int :=
  if at' < 0 ∨ (l.length : Int) < at' then (0, 0, 2)
  else if ds (l.drop at'.toNat) = [] then (0, 0, 2)
  else if 2147483648 < rd (ds (l.drop at'.toNat)) then (0, 0, 4)
  else (rd (ds (l.drop at'.toNat)), at' + (ds (l.drop at'.toNat)).length, 0)

theorem dig_lo {b : UInt8} (h : dig b = true) : 48 ≤ b.toNat := by simp [dig] at h; exact h.1
theorem dig_hi {b : UInt8} (h : dig b = true) : b.toNat ≤ 57 := by simp [dig] at h; exact h.2

theorem ds_nil : ds [] = [] := rfl
theorem ds_cons_dig {b : UInt8} {l : List UInt8} (h : dig b = true) : ds (b :: l) = b :: ds l := by simp [ds, h]
theorem ds_cons_no {b : UInt8} {l : List UInt8} (h : dig b = false) : ds (b :: l) = [] := by simp [ds, h]
theorem ds_step {l : List UInt8} {e : Nat} {b : UInt8} (hb : l[e]? = some b) (h : dig b = true) : ds (l.drop e) = b :: ds (l.drop (e + 1)) := by
  obtain ⟨he, rfl⟩ := List.getElem?_eq_some_iff.1 hb
  rw [List.drop_eq_getElem_cons he, ds_cons_dig h]
theorem ds_stop {l : List UInt8} {e : Nat} {b : UInt8} (hb : l[e]? = some b) (h : dig b = false) : ds (l.drop e) = [] := by
  obtain ⟨he, rfl⟩ := List.getElem?_eq_some_iff.1 hb
  rw [List.drop_eq_getElem_cons he, ds_cons_no h]
theorem ds_end {l : List UInt8} {e : Nat} (h : l.length ≤ e) : ds (l.drop e) = [] := by
  rw [List.drop_of_length_le h]; rfl
theorem ds_all (d : List UInt8) (h : d.all dig = true) : ds d = d := by
  induction d with
  | nil => rfl
  | cons b l ih => simp at h; rw [ds_cons_dig h.1, ih (by simpa using h.2)]
theorem ds_app (d r : List UInt8) (h : d.all dig = true) (hr : ∀ b t, r = b :: t → dig b = false) : ds (d ++ r) = d := by
  induction d with
  | nil =>
    cases r with
    | nil => rfl
    | cons b t => exact ds_cons_no (hr b t rfl)
  | cons b l ih => simp at h; rw [List.cons_append, ds_cons_dig h.1, ih (by simpa using h.2)]
/-- a text is its digits and what is behind them -/
theorem ds_split (l : List UInt8) : ∃ r, l = ds l ++ r ∧ (ds l).all dig = true ∧ ∀ b t, r = b :: t → dig b = false := by
  induction l with
  | nil => exact ⟨[], rfl, rfl, fun b t h => by cases h⟩
  | cons b l ih =>
    obtain ⟨r, h1, h2, h3⟩ := ih
    cases hd : dig b
    · exact ⟨b :: l, by rw [ds_cons_no hd]; rfl, by rw [ds_cons_no hd]; rfl, fun x t e => by cases e; exact hd⟩
    · refine ⟨r, ?_, ?_, h3⟩
      · rw [ds_cons_dig hd, List.cons_append, ← h1]
      · rw [ds_cons_dig hd]; simp [hd]; simpa using h2

theorem st_le (n : Nat) (b : UInt8) : st n b ≤ 2147483649 := by unfold st; omega
theorem fold_le (l : List UInt8) (n : Nat) (h : n ≤ 2147483649) : l.foldl st n ≤ 2147483649 := by
  induction l generalizing n with
  | nil => exact h
  | cons b l ih => exact ih _ (st_le n b)
theorem rd_le (l : List UInt8) : rd l ≤ 2147483649 := fold_le l 0 (by omega)

/-- a text's value, held nowhere -/
def val (n : Nat) (l : List UInt8) : Nat := l.foldl (fun n b => n * 10 + (b.toNat - 48)) n
theorem val_ge (l : List UInt8) : ∀ n, n ≤ val n l := by
  induction l with
  | nil => intro n; exact Nat.le_refl _
  | cons b l ih => intro n; have := ih (n * 10 + (b.toNat - 48)); show n ≤ val (n * 10 + (b.toNat - 48)) l; omega
theorem val_mono (l : List UInt8) : ∀ n m, n ≤ m → val n l ≤ val m l := by
  induction l with
  | nil => intro n m h; exact h
  | cons b l ih => intro n m h; exact ih (n * 10 + (b.toNat - 48)) (m * 10 + (b.toNat - 48)) (by omega)
theorem fold_val (l : List UInt8) : ∀ n m, n = min m 2147483649 → l.foldl st n = min (val m l) 2147483649 := by
  induction l with
  | nil => intro n m h; exact h
  | cons b l ih =>
    intro n m h
    show l.foldl st (st n b) = min (val (m * 10 + (b.toNat - 48)) l) 2147483649
    exact ih _ _ (by unfold st; omega)
theorem rd_val (l : List UInt8) : rd l = min (val 0 l) 2147483649 := fold_val l 0 0 (by omega)
theorem val_append (a b : List UInt8) (n : Nat) : val n (a ++ b) = val (val n a) b := by simp [val]
theorem val_zeros (k : Nat) : val 0 (List.replicate k 48) = 0 := by
  induction k with
  | zero => rfl
  | succ k ih => rw [List.replicate_succ]; exact ih

theorem digit_toNat (u : Nat) (h : u < 10) : (UInt8.ofNat (48 + u)).toNat = 48 + u := by
  rw [UInt8.toNat_ofNat']; omega
theorem digit_dig (u : Nat) (h : u < 10) : dig (UInt8.ofNat (48 + u)) = true := by
  unfold dig; rw [digit_toNat u h]; simp; omega
theorem dec_small {u : Nat} (h : u < 10) : Lib.decDigits u = [UInt8.ofNat (48 + u)] := by rw [Lib.decDigits, dif_pos h]
theorem dec_big {u : Nat} (h : ¬ u < 10) : Lib.decDigits u = Lib.decDigits (u / 10) ++ [UInt8.ofNat (48 + u % 10)] := by rw [Lib.decDigits, dif_neg h]
theorem dec_val (u : Nat) : val 0 (Lib.decDigits u) = u := by
  induction u using Nat.strongRecOn with
  | _ u ih =>
    by_cases h : u < 10
    · rw [dec_small h]; show 0 * 10 + ((UInt8.ofNat (48 + u)).toNat - 48) = u; rw [digit_toNat u h]; omega
    · rw [dec_big h, val_append, ih (u / 10) (by omega)]
      show u / 10 * 10 + ((UInt8.ofNat (48 + u % 10)).toNat - 48) = u
      rw [digit_toNat _ (by omega)]; omega
theorem dec_dig (u : Nat) : (Lib.decDigits u).all dig = true := by
  induction u using Nat.strongRecOn with
  | _ u ih =>
    by_cases h : u < 10
    · rw [dec_small h, List.all_cons, digit_dig u h]; rfl
    · rw [dec_big h, List.all_append, ih (u / 10) (by omega), List.all_cons, digit_dig (u % 10) (by omega)]; rfl
theorem dec_ne (u : Nat) : Lib.decDigits u ≠ [] := by
  by_cases h : u < 10
  · rw [dec_small h]; simp
  · rw [dec_big h]; simp
theorem itoa_pos (u : Nat) : Lib.itoa u = Lib.decDigits u := by simp [Lib.itoa]

/-- at most 20 signs -/
theorem dec_len (k : Nat) : ∀ u, u < 10 ^ (k + 1) → (Lib.decDigits u).length ≤ k + 1 := by
  induction k with
  | zero => intro u h; rw [dec_small (by omega)]; simp
  | succ k ih =>
    intro u h
    by_cases h10 : u < 10
    · rw [dec_small h10]; simp
    · rw [dec_big h10, List.length_append]
      have := ih (u / 10) (by rw [Nat.pow_succ] at h; omega)
      simp; omega

/-- reading digits that stand at a place, nothing like them behind -/
theorem read_at (l : List UInt8) (k : Nat) (d r : List UInt8) (hk : k ≤ l.length) (hl : l.drop k = d ++ r) (hd : d.all dig = true) (hne : d ≠ []) (hr : ∀ b t, r = b :: t → dig b = false) :
    read l k = if 2147483648 < rd d then (0, 0, 4) else ((rd d : Int), (k : Int) + d.length, 0) := by
  have e : ds (l.drop (k : Int).toNat) = d := by rw [Int.toNat_natCast, hl]; exact ds_app d r hd hr
  unfold read
  rw [if_neg (by omega), e, if_neg hne]

/-- a number from 1 on that a text is, whole -/
def num (l : List UInt8) : Option Int := if l ≠ [] ∧ l.all dig = true ∧ 1 ≤ rd l ∧ rd l ≤ 2147483648 then some (rd l : Int) else none

theorem num_none_of {l : List UInt8} (h : ¬ (l ≠ [] ∧ l.all dig = true ∧ 1 ≤ rd l ∧ rd l ≤ 2147483648)) : num l = none := by rw [num, if_neg h]
theorem num_some_of {l : List UInt8} (h : l ≠ [] ∧ l.all dig = true ∧ 1 ≤ rd l ∧ rd l ≤ 2147483648) : num l = some (rd l : Int) := by rw [num, if_pos h]
theorem num_ge {l : List UInt8} {n : Int} (h : num l = some n) : 1 ≤ n := by
  unfold num at h; split at h
  · cases h; omega
  · cases h
theorem num_le {l : List UInt8} {n : Int} (h : num l = some n) : n ≤ 2147483648 := by
  unfold num at h; split at h
  · cases h; omega
  · cases h

/-- reading all of what is behind a place -/
theorem read_num (l : List UInt8) (k : Nat) (hk : k ≤ l.length) :
    (if (read l k).2.2 = 0 ∧ (read l k).2.1 = (l.length : Int) ∧ 1 ≤ (read l k).1 then some (read l k).1 else none) = num (l.drop k) := by
  obtain ⟨r, h1, h2, h3⟩ := ds_split (l.drop k)
  by_cases hne : ds (l.drop k) = []
  · have e : read l k = (0, 0, 2) := by
      unfold read
      rw [if_neg (by omega), Int.toNat_natCast, if_pos hne]
    rw [e, if_neg (by simp), num_none_of]
    rintro ⟨a, b, _⟩
    exact a (by rw [← ds_all _ b]; exact hne)
  · have e := read_at l k (ds (l.drop k)) r hk h1 h2 hne h3
    have hlen : l.length - k = (ds (l.drop k)).length + r.length := by
      have := congrArg List.length h1
      rw [List.length_drop, List.length_append] at this; exact this
    by_cases hbig : 2147483648 < rd (ds (l.drop k))
    · rw [if_pos hbig] at e
      rw [e, if_neg (by simp), num_none_of]
      rintro ⟨_, b, _, d⟩
      rw [ds_all _ b] at hbig; omega
    · rw [if_neg hbig] at e
      rw [e]
      by_cases hr : r = []
      · subst hr
        have h4 : l.drop k = ds (l.drop k) := by rw [List.append_nil] at h1; exact h1
        by_cases h1' : 1 ≤ rd (ds (l.drop k))
        · rw [if_pos ⟨rfl, by show (k : Int) + _ = _; simp at hlen; omega, by show (1 : Int) ≤ _; omega⟩, num_some_of ⟨by rw [h4]; exact hne, by rw [h4]; exact h2, by rw [h4]; exact h1', by rw [h4]; omega⟩, ← h4]
        · rw [if_neg (fun h => h1' (by have := h.2.2; simp at this; omega)), num_none_of]
          rintro ⟨_, _, c, _⟩
          rw [h4] at c; exact h1' c
      · have hrl : 0 < r.length := List.length_pos_iff.2 hr
        rw [if_neg (fun h => by have := h.2.1; simp at this; omega), num_none_of]
        rintro ⟨_, b, _⟩
        have := ds_all _ b
        rw [this] at hlen
        rw [List.length_drop] at hlen
        omega

/-- an end of a range -/
def side (t : List UInt8) (a : Int) : Option Int := if t = [] then some a else num t

/-- a range, as the program reads it -/
def part (l : List UInt8) : Option (Int × Int) :=
  if (Lib.cut l [45]).1 = [] ∧ (Lib.cut l [45]).2.1 = [] then none
  else match side (Lib.cut l [45]).1 1 with
    | none => none
    | some f =>
      if (Lib.cut l [45]).2.2 = false then some (f, f)
      else match side (Lib.cut l [45]).2.1 (-1) with
        | none => none
        | some t => if (Lib.cut l [45]).2.1 ≠ [] ∧ t < f then none else some (f, t)

theorem index_hit (p q : List UInt8) (c : UInt8) (h : ∀ x, x ∈ p → x ≠ c) : Lib.index (p ++ c :: q) [c] = p.length := by
  apply Lib.index_first
  · simp
  · simp [Lib.occAt]
  · intro j hj
    rw [Lib.occAt, List.drop_append_of_le_length (by omega), List.drop_eq_getElem_cons hj]
    have := h _ (List.getElem_mem hj)
    rw [List.cons_append, List.isPrefixOf, Bool.and_eq_false_iff]
    left
    rw [beq_eq_false_iff_ne]
    exact fun e => this e.symm
theorem index_miss (p : List UInt8) (c : UInt8) (h : ∀ x, x ∈ p → x ≠ c) : Lib.index p [c] = -1 := by
  apply Lib.index_none
  intro j hj
  rw [Lib.occAt]
  by_cases hlt : j < p.length
  · rw [List.drop_eq_getElem_cons hlt]
    have := h _ (List.getElem_mem hlt)
    simp [List.isPrefixOf]
    exact fun e => this e.symm
  · rw [List.drop_of_length_le (by omega)]; rfl
theorem cut_hit (p q : List UInt8) (c : UInt8) (h : ∀ x, x ∈ p → x ≠ c) : Lib.cut (p ++ c :: q) [c] = (p, q, true) := by
  unfold Lib.cut
  rw [index_hit p q c h, if_pos (by omega)]
  simp
theorem cut_miss (p : List UInt8) (c : UInt8) (h : ∀ x, x ∈ p → x ≠ c) : Lib.cut p [c] = (p, [], false) := by
  unfold Lib.cut
  rw [index_miss p c h, if_neg (by omega)]

/-- where a byte first is -/
theorem split_at (c : UInt8) (l : List UInt8) : (∀ x, x ∈ l → x ≠ c) ∨ ∃ p q, l = p ++ c :: q ∧ ∀ x, x ∈ p → x ≠ c := by
  induction l with
  | nil => exact Or.inl (fun x h => by cases h)
  | cons b l ih =>
    by_cases hb : b = c
    · exact Or.inr ⟨[], l, by rw [hb]; rfl, fun x h => by cases h⟩
    · rcases ih with h | ⟨p, q, h1, h2⟩
      · left; intro x hx; rcases List.mem_cons.1 hx with rfl | hx
        · exact hb
        · exact h x hx
      · right; refine ⟨b :: p, q, by rw [h1]; rfl, ?_⟩
        intro x hx; rcases List.mem_cons.1 hx with rfl | hx
        · exact hb
        · exact h2 x hx

theorem dig_no (c : UInt8) (hc : dig c = false) (d : List UInt8) (h : d.all dig = true) : ∀ x, x ∈ d → x ≠ c := by
  intro x hx e
  have := List.all_eq_true.1 h x hx
  rw [e, hc] at this; cases this

/-- a part that has no dash -/
theorem part_plain (l : List UInt8) (h : ∀ x, x ∈ l → x ≠ 45) : part l = (num l).map fun n => (n, n) := by
  unfold part
  rw [cut_miss l 45 h]
  by_cases hl : l = []
  · subst hl; rfl
  · rw [if_neg (by simp [hl])]
    simp only [side, if_neg hl]
    cases num l <;> rfl
/-- a part that has one -/
theorem part_dash (p q : List UInt8) (h : ∀ x, x ∈ p → x ≠ 45) :
    part (p ++ 45 :: q) = if p = [] ∧ q = [] then none else match side p 1 with
      | none => none
      | some f => match side q (-1) with
        | none => none
        | some t => if q ≠ [] ∧ t < f then none else some (f, t) := by
  unfold part
  rw [cut_hit p q 45 h]
  rfl

/-- a range, as the document's own text reads it -/
def refPart (l : List UInt8) : Option (Int × Int) :=
  if l.head? = some 45 then (if (read l 1).2.2 = 0 ∧ (read l 1).2.1 = (l.length : Int) ∧ 1 ≤ (read l 1).1 then some (1, (read l 1).1) else none)
  else if (read l 0).2.2 ≠ 0 ∨ (read l 0).1 < 1 then none
  else if (read l 0).2.1 = (l.length : Int) then some ((read l 0).1, (read l 0).1)
  else if l[(read l 0).2.1.toNat]? ≠ some 45 then none
  else if (read l 0).2.1 + 1 = (l.length : Int) then some ((read l 0).1, -1)
  else if (read l ((read l 0).2.1 + 1)).2.2 = 0 ∧ (read l ((read l 0).2.1 + 1)).2.1 = (l.length : Int) ∧ (read l 0).1 ≤ (read l ((read l 0).2.1 + 1)).1 then some ((read l 0).1, (read l ((read l 0).2.1 + 1)).1) else none

theorem map_if {α β : Type} (c : Prop) [Decidable c] (a : α) (f : α → β) : (if c then some (f a) else none) = (if c then some a else none).map f := by
  split <;> rfl

theorem read_zero_empty {l : List UInt8} (h : ds l = []) : read l 0 = (0, 0, 2) := by
  unfold read
  rw [if_neg (by omega)]
  show (if ds (l.drop 0) = [] then _ else _) = _
  rw [List.drop_zero, if_pos h]

theorem num_bad {l : List UInt8} (h : l.all dig = false) : num l = none := num_none_of fun ⟨_, b, _⟩ => by rw [h] at b; cases b

set_option maxHeartbeats 1000000 in
theorem refPart_eq (l : List UInt8) : refPart l = part l := by
  obtain ⟨r, hl, hd, hr⟩ := ds_split l
  generalize ds l = d at hl hd
  subst hl
  by_cases hd0 : d = []
  · subst hd0
    rw [List.nil_append] at *
    cases r with
    | nil => rfl
    | cons b t =>
      have hb := hr b t rfl
      by_cases h45 : b = 45
      · subst h45
        have e1 : refPart (45 :: t) = (if (read (45 :: t) (1 : Nat)).2.2 = 0 ∧ (read (45 :: t) (1 : Nat)).2.1 = ((45 :: t).length : Int) ∧ 1 ≤ (read (45 :: t) (1 : Nat)).1 then some (1, (read (45 :: t) (1 : Nat)).1) else none) := by
          unfold refPart; rw [if_pos (show (45 :: t).head? = some 45 from rfl)]; rfl
        rw [e1, map_if _ (read (45 :: t) (1 : Nat)).1 (fun x => ((1 : Int), x)), read_num (45 :: t) 1 (by simp), List.drop_succ_cons, List.drop_zero]
        have e2 := part_dash [] t (fun x h => by cases h)
        rw [List.nil_append] at e2
        rw [e2]
        by_cases ht : t = []
        · subst ht; rfl
        · rw [if_neg (by simp [ht])]
          simp only [side, if_neg ht]
          cases hn : num t with
          | none => rfl
          | some n =>
            have := num_ge hn
            show some ((1 : Int), n) = if t ≠ [] ∧ n < 1 then none else some (1, n)
            rw [if_neg (by omega)]
      · have hz : read (b :: t) 0 = (0, 0, 2) := read_zero_empty (ds_cons_no hb)
        have e1 : refPart (b :: t) = none := by
          unfold refPart
          rw [if_neg (by simp [h45]), hz, if_pos (by simp)]
        rw [e1]
        rcases split_at 45 (b :: t) with h | ⟨p, q, h1, h2⟩
        · rw [part_plain _ h, num_bad (by simp [hb])]; rfl
        · have hp : p ≠ [] := fun e => by subst e; rw [List.nil_append] at h1; cases h1; exact h45 rfl
          have hp2 : p.all dig = false := by
            cases p with
            | nil => exact absurd rfl hp
            | cons x p => rw [List.cons_append] at h1; cases h1; simp [hb]
          rw [h1, part_dash p q h2, if_neg (by simp [hp])]
          simp only [side, if_neg hp, num_bad hp2]
  · -- a digit first
    have hnd : ∀ x, x ∈ d → x ≠ 45 := dig_no 45 (by decide) d hd
    have hhead : (d ++ r).head? ≠ some 45 := by
      cases d with
      | nil => exact absurd rfl hd0
      | cons x d => intro e; simp at e; exact hnd x (by simp) e
    have hz := read_at (d ++ r) 0 d r (by omega) rfl hd hd0 hr
    rw [Int.natCast_zero] at hz
    have hnum : ∀ (hb : ¬ 2147483648 < rd d) (h1 : 1 ≤ rd d), num d = some (rd d : Int) := fun hb h1 => num_some_of ⟨hd0, hd, h1, by omega⟩
    have hdn : (2147483648 < rd d ∨ ¬ 1 ≤ rd d) → num d = none := fun h => num_none_of fun ⟨_, _, c, e⟩ => by rcases h with h | h <;> omega
    by_cases hbad : 2147483648 < rd d ∨ ¬ 1 ≤ rd d
    · have e1 : refPart (d ++ r) = none := by
        unfold refPart
        rw [if_neg hhead, hz]
        rcases hbad with h | h
        · rw [if_pos h, if_pos (by simp)]
        · by_cases h2 : 2147483648 < rd d
          · rw [if_pos h2, if_pos (by simp)]
          · rw [if_neg h2, if_pos (by right; show (rd d : Int) < 1; omega)]
      rw [e1]
      cases r with
      | nil => rw [List.append_nil, part_plain d hnd, hdn hbad]; rfl
      | cons b t =>
        by_cases hb : b = 45
        · subst hb
          rw [part_dash d t hnd, if_neg (by simp [hd0])]
          simp only [side, if_neg hd0, hdn hbad]
        · have hbd := hr b t rfl
          rcases split_at 45 (d ++ b :: t) with h | ⟨p, q, h1, h2⟩
          · rw [part_plain _ h, num_bad (by simp [hbd])]; rfl
          · obtain ⟨p', rfl⟩ : ∃ p', p = d ++ b :: p' := by
              rcases List.append_eq_append_iff.1 h1 with ⟨a, ha, hc⟩ | ⟨a, ha, hc⟩
              · cases a with
                | nil => rw [List.nil_append] at hc; cases hc; exact absurd rfl hb
                | cons x a => rw [List.cons_append] at hc; cases hc; exact ⟨a, ha⟩
              · cases a with
                | nil => rw [List.nil_append] at hc; cases hc; exact absurd rfl hb
                | cons x a =>
                  rw [List.cons_append] at hc; cases hc
                  exact absurd rfl (hnd 45 (by rw [ha]; simp))
            rw [h1, part_dash _ q h2, if_neg (by simp)]
            simp only [side, if_neg (show ¬ (d ++ b :: p' = []) by simp), num_bad (show (d ++ b :: p').all dig = false by simp [hbd])]
    · have hb1 : ¬ 2147483648 < rd d := fun h => hbad (Or.inl h)
      have hb2 : 1 ≤ rd d := by omega
      rw [if_neg hb1, Int.zero_add] at hz
      have e0 : refPart (d ++ r) = if (d.length : Int) = ((d ++ r).length : Int) then some ((rd d : Int), (rd d : Int)) else if (d ++ r)[d.length]? ≠ some 45 then none else if (d.length : Int) + 1 = ((d ++ r).length : Int) then some ((rd d : Int), -1) else if (read (d ++ r) ((d.length : Int) + 1)).2.2 = 0 ∧ (read (d ++ r) ((d.length : Int) + 1)).2.1 = ((d ++ r).length : Int) ∧ (rd d : Int) ≤ (read (d ++ r) ((d.length : Int) + 1)).1 then some ((rd d : Int), (read (d ++ r) ((d.length : Int) + 1)).1) else none := by
        unfold refPart
        rw [if_neg hhead, hz, if_neg (by rintro (h | h); · exact h rfl
                                         · have : (rd d : Int) < 1 := h
                                           omega)]
        simp only [Int.toNat_natCast]
      rw [e0]
      cases r with
      | nil =>
        rw [List.append_nil, if_pos rfl, part_plain d hnd, hnum hb1 hb2]; rfl
      | cons b t =>
        rw [if_neg (by simp; omega)]
        have hget : (d ++ b :: t)[d.length]? = some b := by simp
        rw [hget]
        by_cases hb : b = 45
        · subst hb
          rw [if_neg (show ¬ (some (45 : UInt8) ≠ some 45) by simp), part_dash d t hnd, if_neg (show ¬ (d = [] ∧ t = []) by simp [hd0])]
          simp only [side, if_neg hd0, hnum hb1 hb2]
          by_cases ht : t = []
          · subst ht
            have hlen1 : (d.length : Int) + 1 = ((d ++ [45]).length : Int) := by simp
            rw [if_pos hlen1]
            simp
          · have htl : 0 < t.length := List.length_pos_iff.2 ht
            rw [if_neg (show ¬ ((d.length : Int) + 1 = ((d ++ 45 :: t).length : Int)) by simp; omega)]
            simp only [if_neg ht]
            have hdrop : (d ++ 45 :: t).drop (d.length + 1) = t := by simp
            have hrn := read_num (d ++ 45 :: t) (d.length + 1) (by simp)
            rw [hdrop] at hrn
            have ecast : ((d.length + 1 : Nat) : Int) = (d.length : Int) + 1 := by omega
            rw [ecast] at hrn
            generalize read (d ++ 45 :: t) ((d.length : Int) + 1) = R at *
            cases hn : num t with
            | none =>
              rw [hn] at hrn
              show _ = none
              rw [if_neg]
              rintro ⟨a, b', c⟩
              rw [if_pos ⟨a, b', by omega⟩] at hrn
              cases hrn
            | some n =>
              rw [hn] at hrn
              have hc : R.2.2 = 0 ∧ R.2.1 = ((d ++ 45 :: t).length : Int) ∧ 1 ≤ R.1 := by
                by_cases hc : R.2.2 = 0 ∧ R.2.1 = ((d ++ 45 :: t).length : Int) ∧ 1 ≤ R.1
                · exact hc
                · rw [if_neg hc] at hrn; cases hrn
              rw [if_pos hc] at hrn
              have hRn : R.1 = n := Option.some.inj hrn
              rw [hRn]
              show _ = if t ≠ [] ∧ n < (rd d : Int) then none else some ((rd d : Int), n)
              by_cases hlt : n < (rd d : Int)
              · rw [if_neg (by omega), if_pos ⟨ht, hlt⟩]
              · rw [if_pos ⟨hc.1, hc.2.1, by omega⟩, if_neg (fun h => hlt h.2)]
        · have hbd := hr b t rfl
          rw [if_pos (by simp [hb])]
          rcases split_at 45 (d ++ b :: t) with h | ⟨p, q, h1, h2⟩
          · rw [part_plain _ h, num_bad (by simp [hbd])]; rfl
          · obtain ⟨p', rfl⟩ : ∃ p', p = d ++ b :: p' := by
              rcases List.append_eq_append_iff.1 h1 with ⟨a, ha, hc⟩ | ⟨a, ha, hc⟩
              · cases a with
                | nil => rw [List.nil_append] at hc; cases hc; exact absurd rfl hb
                | cons x a => rw [List.cons_append] at hc; cases hc; exact ⟨a, ha⟩
              · cases a with
                | nil => rw [List.nil_append] at hc; cases hc; exact absurd rfl hb
                | cons x a =>
                  rw [List.cons_append] at hc; cases hc
                  exact absurd rfl (hnd 45 (by rw [ha]; simp))
            rw [h1, part_dash _ q h2, if_neg (by simp)]
            simp only [side, if_neg (show ¬ (d ++ b :: p' = []) by simp), num_bad (show (d ++ b :: p').all dig = false by simp [hbd])]

/-- what stands between a byte -/
def cuts (c : UInt8) : List UInt8 → List (List UInt8)
  | [] => [[]]
  | b :: l => if b = c then [] :: cuts c l else match cuts c l with
    | [] => [[b]]
    | x :: t => (b :: x) :: t
theorem cuts_hit (c : UInt8) (p q : List UInt8) (h : ∀ x, x ∈ p → x ≠ c) : cuts c (p ++ c :: q) = p :: cuts c q := by
  induction p with
  | nil => simp [cuts]
  | cons b p ih =>
    have hb : b ≠ c := h b (by simp)
    rw [List.cons_append, cuts, if_neg hb, ih (fun x hx => h x (by simp [hx]))]
theorem cuts_miss (c : UInt8) (p : List UInt8) (h : ∀ x, x ∈ p → x ≠ c) : cuts c p = [p] := by
  induction p with
  | nil => rfl
  | cons b p ih => rw [cuts, if_neg (h b (by simp)), ih (fun x hx => h x (by simp [hx]))]
theorem cuts_len (c : UInt8) (l : List UInt8) : (cuts c l).length ≤ l.length + 1 := by
  induction l with
  | nil => simp [cuts]
  | cons b l ih =>
    rw [cuts]
    split
    · simp; exact ih
    · cases h : cuts c l with
      | nil => simp
      | cons x t => rw [h] at ih; simp at ih ⊢; omega

theorem split_cuts (c : UInt8) : ∀ (n : Nat) (l : List UInt8), l.length ≤ n → Lib.split l [c] = cuts c l := by
  intro n
  induction n with
  | zero =>
    intro l hl
    obtain rfl : l = [] := List.eq_nil_of_length_eq_zero (by omega)
    rw [Lib.split, Lib.count_miss (index_miss [] c (fun x h => by cases h))]; rfl
  | succ n ih =>
    intro l hl
    rcases split_at c l with h | ⟨p, q, rfl, h2⟩
    · rw [Lib.split, Lib.count_miss (index_miss l c h), cuts_miss c l h]; rfl
    · have hi := index_hit p q c h2
      have hq : (p ++ c :: q).drop (p.length + [c].length) = q := by simp
      rw [Lib.split, Lib.count_hit (by simp) hi, hq, cuts_hit c p q h2, ← ih q (by simp at hl; omega), Nat.add_comm, Lib.splitK, if_neg (by rw [hi, beq_iff_eq]; omega), hi]
      simp only [Int.toNat_natCast]
      rw [hq]
      congr 1
      simp

/-- all the ranges of a list of parts -/
def rngs : List (List UInt8) → Option (List (Int × Int))
  | [] => some []
  | x :: t => match part x with
    | none => none
    | some r => match rngs t with
      | none => none
      | some l => some (r :: l)
def ranges (l : List UInt8) : Option (List (Int × Int)) := rngs (cuts 44 l)

/-- is a number in one of them -/
def inOne (r : Int × Int) (n : Int) : Bool := decide (r.1 ≤ n) && (decide (r.2 < 0) || decide (n ≤ r.2))
def has (l : List (Int × Int)) (n : Int) : Bool := decide (1 ≤ n) && (l.isEmpty || l.any fun r => inOne r n)

end Go.Proofs.YtdlmddeiopdioaaDoor.Nm

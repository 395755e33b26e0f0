
/-
  Sets of bytes as words, and what stands between the brackets of a set, where a sign may be escaped or not: the list functions and their laws; no conditions.
-/
import Derived.Laws.BitsAllLaws
import Derived.Lib.Strings
namespace Go.Proofs.Ytmbalnjobcgpkaa.Gl

abbrev Tx := List UInt8
abbrev Bs := Nat → Bool

/-- the low bits of a word of a set -/
def wordTo (f : Bs) (k : Nat) : Nat → Nat
  | 0 => 0
  | b + 1 => wordTo f k b ||| (if f (64 * k + b) = true then 2 ^ b else 0)
/-- a word of a set -/
def word (f : Bs) (k : Nat) : Nat := wordTo f k 64

theorem wordTo_bit (f : Bs) (k : Nat) : ∀ n i, (wordTo f k n).testBit i = (decide (i < n) && f (64 * k + i)) := by
  intro n
  induction n with
  | zero => intro i; simp [wordTo]
  | succ n ih =>
    intro i
    rw [wordTo, Nat.testBit_or, ih]
    by_cases hf : f (64 * k + n) = true
    · rw [if_pos hf, Nat.testBit_two_pow]
      by_cases hi : n = i
      · subst hi; simp [hf]
      · by_cases h2 : i < n
        · simp [hi, h2, show i < n + 1 by omega]
        · simp [hi, h2, show ¬ i < n + 1 by omega]
    · rw [if_neg hf, Nat.zero_testBit]
      by_cases hi : n = i
      · subst hi; simp [hf]
      · by_cases h2 : i < n
        · simp [h2, show i < n + 1 by omega]
        · simp [h2, show ¬ i < n + 1 by omega]
theorem word_bit (f : Bs) (k i : Nat) : (word f k).testBit i = (decide (i < 64) && f (64 * k + i)) := wordTo_bit f k 64 i
theorem word_lt (f : Bs) (k : Nat) : word f k < 18446744073709551616 := by
  have : word f k < 2 ^ 64 := Nat.lt_pow_two_of_testBit _ fun i hi => by rw [word_bit]; simp; omega
  simpa using this
theorem word_or (f g : Bs) (k : Nat) : word f k ||| word g k = word (fun c => f c || g c) k := by
  apply Nat.eq_of_testBit_eq
  intro i
  rw [Nat.testBit_or, word_bit, word_bit, word_bit]
  cases decide (i < 64) <;> simp
theorem word_not (f : Bs) (k : Nat) : 18446744073709551615 - word f k = word (fun c => !f c) k := by
  apply Nat.eq_of_testBit_eq
  intro i
  have h := Nat.testBit_two_pow_sub_succ (n := 64) (x := word f k) (by simpa using word_lt f k) i
  have e : 2 ^ 64 - (word f k + 1) = 18446744073709551615 - word f k := by omega
  rw [e] at h
  rw [h, word_bit, word_bit]
  cases decide (i < 64) <;> simp
theorem word_andNot (f g : Bs) (k : Nat) : word f k &&& (18446744073709551615 - word g k) = word (fun c => f c && !g c) k := by
  rw [word_not]
  apply Nat.eq_of_testBit_eq
  intro i
  rw [Nat.testBit_and, word_bit, word_bit, word_bit]
  cases decide (i < 64) <;> simp
/-- one byte more -/
theorem word_put (f : Bs) (c : Nat) : word f (c / 64) ||| 2 ^ (c % 64) = word (fun d => f d || d == c) (c / 64) := by
  apply Nat.eq_of_testBit_eq
  intro i
  rw [Nat.testBit_or, word_bit, word_bit, Nat.testBit_two_pow]
  by_cases hi : i < 64
  · by_cases h : c % 64 = i
    · have : 64 * (c / 64) + i = c := by omega
      simp [h, hi, this]
    · have : ¬ 64 * (c / 64) + i = c := by omega
      simp [h, hi, this]
  · have : ¬ c % 64 = i := by omega
    simp [hi, this]
theorem word_far (f : Bs) (c k : Nat) (h : k ≠ c / 64) : word (fun d => f d || d == c) k = word f k := by
  apply Nat.eq_of_testBit_eq
  intro i
  rw [word_bit, word_bit]
  by_cases hi : i < 64
  · have : ¬ 64 * k + i = c := by omega
    simp [hi, this]
  · simp [hi]
theorem word_has (f : Bs) (c : Nat) : (word f (c / 64) / 2 ^ (c % 64) &&& 1 = 1) = (f c = true) := by
  have h := word_bit f (c / 64) (c % 64)
  have e : 64 * (c / 64) + c % 64 = c := by omega
  rw [e] at h
  have hl : c % 64 < 64 := Nat.mod_lt _ (by decide)
  rw [Nat.testBit_eq_decide_div_mod_eq] at h
  rw [Nat.and_one_is_mod]
  simp [hl] at h
  rw [← h]
  simp
theorem word_ext {f g : Bs} (k : Nat) (h : ∀ c, f c = g c) : word f k = word g k := by rw [show f = g from funext h]
theorem word_none (k : Nat) : word (fun _ => false) k = 0 := by
  apply Nat.eq_of_testBit_eq
  intro i
  rw [word_bit, Nat.zero_testBit, Bool.and_false]

/-- from one byte to another -/
def spn (a b : Nat) : Bs := fun c => decide (a ≤ c) && decide (c ≤ b)
def notB (f : Bs) : Bs := fun c => !f c
def butB (f : Bs) (d : Nat) : Bs := fun c => f c && c != d
def both (f g : Bs) : Bs := fun c => f c || g c
def none_ : Bs := fun _ => false

/-! reading a pattern -/
def alpha : Bs := both (spn 65 90) (spn 97 122)
def digit : Bs := spn 48 57
def upper : Bs := spn 65 90
def lower : Bs := spn 97 122
def alnum : Bs := both (both (spn 65 90) (spn 97 122)) (spn 48 57)
def space : Bs := both (spn 9 13) (spn 32 32)
def tAlpha : Tx := [91, 58, 97, 108, 112, 104, 97, 58, 93]
def tDigit : Tx := [91, 58, 100, 105, 103, 105, 116, 58, 93]
def tUpper : Tx := [91, 58, 117, 112, 112, 101, 114, 58, 93]
def tLower : Tx := [91, 58, 108, 111, 119, 101, 114, 58, 93]
def tAlnum : Tx := [91, 58, 97, 108, 110, 117, 109, 58, 93]
def tSpace : Tx := [91, 58, 115, 112, 97, 99, 101, 58, 93]
/-- the class of a text -/
def classOf (t : Tx) : Option Bs :=
  if t = tAlpha then some alpha else if t = tDigit then some digit else if t = tUpper then some upper else if t = tLower then some lower else if t = tAlnum then some alnum else if t = tSpace then some space else none
def classSet (t : Tx) : Bs := (classOf t).getD none_
def isCls (l : Tx) : Bool := (classOf (l.take 9)).isSome

/-- e: may a sign be escaped? -/
def esc (e : Bool) (l : Tx) : Bool := e && l.getD 0 0 == 92 && decide (1 < l.length)
def byteLen (e : Bool) (l : Tx) : Nat := if esc e l = true then 2 else 1
def byteVal (e : Bool) (l : Tx) : UInt8 := if esc e l = true then l.getD 1 0 else l.getD 0 0
def isDash (l : Tx) : Bool := decide (1 < l.length) && l.getD 0 0 == 45 && l.getD 1 0 != 93 && !isCls (l.drop 1)
def itemLen (e : Bool) (l : Tx) : Nat :=
  if isCls l = true then 9 else if isDash (l.drop (byteLen e l)) = true then byteLen e l + 1 + byteLen e (l.drop (byteLen e l + 1)) else byteLen e l
def itemSet (e : Bool) (l : Tx) : Bs :=
  if isCls l = true then classSet (l.take 9) else if isDash (l.drop (byteLen e l)) = true then spn (byteVal e l).toNat (byteVal e (l.drop (byteLen e l + 1))).toNat else spn (byteVal e l).toNat (byteVal e l).toNat

/-- a set up to its end: its bytes, and how many signs it takes -/
def setGo (e : Bool) : Nat → Bool → Tx → Bs → Option (Bs × Nat)
  | 0, _, _, _ => none
  | n + 1, first, l, s =>
    if l = [] then none else if l.getD 0 0 = 93 ∧ first = false then some (s, 1)
    else (setGo e n false (l.drop (itemLen e l)) (both s (itemSet e l))).map fun r => (r.1, r.2 + itemLen e l)
/-! how long what is read is -/
theorem byteLen_pos (e : Bool) (l : Tx) : 1 ≤ byteLen e l := by unfold byteLen; split <;> omega
theorem byteLen_two (e : Bool) (l : Tx) : byteLen e l ≤ 2 := by unfold byteLen; split <;> omega
theorem byteLen_le (e : Bool) {l : Tx} (h : l ≠ []) : byteLen e l ≤ l.length := by
  have : 0 < l.length := List.length_pos_iff.2 h
  unfold byteLen esc
  split
  · rename_i h2; simp at h2; omega
  · omega
theorem isCls_cases {l : Tx} (h : isCls l = true) : (l.take 9 = tAlpha ∨ l.take 9 = tDigit ∨ l.take 9 = tUpper ∨ l.take 9 = tLower ∨ l.take 9 = tAlnum ∨ l.take 9 = tSpace) := by
  unfold isCls classOf at h
  split at h
  · exact Or.inl (by assumption)
  split at h
  · exact Or.inr (Or.inl (by assumption))
  split at h
  · exact Or.inr (Or.inr (Or.inl (by assumption)))
  split at h
  · exact Or.inr (Or.inr (Or.inr (Or.inl (by assumption))))
  split at h
  · exact Or.inr (Or.inr (Or.inr (Or.inr (Or.inl (by assumption)))))
  split at h
  · exact Or.inr (Or.inr (Or.inr (Or.inr (Or.inr (by assumption)))))
  · cases h
theorem isCls_split {l : Tx} (h : isCls l = true) : ∃ a b c d e r, l = 91 :: 58 :: a :: b :: c :: d :: e :: 58 :: 93 :: r ∧ (l.take 9 = tAlpha ∨ l.take 9 = tDigit ∨ l.take 9 = tUpper ∨ l.take 9 = tLower ∨ l.take 9 = tAlnum ∨ l.take 9 = tSpace) := by
  have hc := isCls_cases h
  have e : l = l.take 9 ++ l.drop 9 := (List.take_append_drop 9 l).symm
  rcases hc with h | h | h | h | h | h
  · exact ⟨97, 108, 112, 104, 97, l.drop 9, by rw [h] at e; exact e, Or.inl h⟩
  · exact ⟨100, 105, 103, 105, 116, l.drop 9, by rw [h] at e; exact e, Or.inr (Or.inl h)⟩
  · exact ⟨117, 112, 112, 101, 114, l.drop 9, by rw [h] at e; exact e, Or.inr (Or.inr (Or.inl h))⟩
  · exact ⟨108, 111, 119, 101, 114, l.drop 9, by rw [h] at e; exact e, Or.inr (Or.inr (Or.inr (Or.inl h)))⟩
  · exact ⟨97, 108, 110, 117, 109, l.drop 9, by rw [h] at e; exact e, Or.inr (Or.inr (Or.inr (Or.inr (Or.inl h))))⟩
  · exact ⟨115, 112, 97, 99, 101, l.drop 9, by rw [h] at e; exact e, Or.inr (Or.inr (Or.inr (Or.inr (Or.inr h))))⟩
theorem isCls_len {l : Tx} (h : isCls l = true) : 9 ≤ l.length := by
  obtain ⟨a, b, c, d, e, r, rfl, _⟩ := isCls_split h
  simp
theorem isCls_head {l : Tx} (h : l.getD 0 0 ≠ 91) : isCls l = false := by
  cases hc : isCls l with
  | false => rfl
  | true =>
    obtain ⟨a, b, c, d, e, r, rfl, _⟩ := isCls_split hc
    exact absurd rfl h
theorem isDash_len {l : Tx} (h : isDash l = true) : 2 ≤ l.length := by
  unfold isDash at h; simp at h; omega
theorem itemLen_pos (e : Bool) (l : Tx) : 1 ≤ itemLen e l := by
  have := byteLen_pos e l
  unfold itemLen
  split
  · omega
  · split <;> omega
theorem itemLen_le (e : Bool) {l : Tx} (h : l ≠ []) : itemLen e l ≤ l.length := by
  unfold itemLen
  split
  · exact isCls_len (by assumption)
  · split
    · rename_i h2
      have := isDash_len h2
      rw [List.length_drop] at this
      have h3 := byteLen_le e (l := l.drop (byteLen e l + 1)) (fun e => by
        have := congrArg List.length e
        rw [List.length_drop] at this
        simp at this; omega)
      rw [List.length_drop] at h3
      omega
    · exact byteLen_le e h

theorem drop_ne {l : Tx} {k : Nat} (h : k < l.length) : l.drop k ≠ [] := fun e => by
  have := congrArg List.length e
  rw [List.length_drop] at this
  simp at this; omega
theorem drop_getD (l : Tx) (k j : Nat) : (l.drop k).getD j 0 = l.getD (k + j) 0 := by
  rw [List.getD_eq_getElem?_getD, List.getD_eq_getElem?_getD, List.getElem?_drop]

/-- a bound that is great enough is as good as another -/
theorem setGo_fuel (e : Bool) : ∀ n m first l s, l.length < n → l.length < m → setGo e n first l s = setGo e m first l s := by
  intro n
  induction n with
  | zero => intro m f l s h; omega
  | succ n ih =>
    intro m f l s h1 h2
    cases m with
    | zero => omega
    | succ m =>
      unfold setGo
      by_cases hl : l = []
      · rw [if_pos hl, if_pos hl]
      · rw [if_neg hl, if_neg hl]
        split
        · rfl
        · have := itemLen_le e hl
          have := itemLen_pos e l
          rw [ih m false _ _ (by rw [List.length_drop]; omega) (by rw [List.length_drop]; omega)]
theorem setGo_len (e : Bool) : ∀ n first l s r, setGo e n first l s = some r → 1 ≤ r.2 ∧ r.2 ≤ l.length := by
  intro n
  induction n with
  | zero => intro f l s r h; cases h
  | succ n ih =>
    intro f l s r h
    unfold setGo at h
    split at h
    · cases h
    · rename_i hl
      have := List.length_pos_iff.2 hl
      split at h
      · cases h; simp; omega
      · have h3 := itemLen_le e hl
        cases hr : setGo e n false (l.drop (itemLen e l)) (both s (itemSet e l)) with
        | none => rw [hr] at h; cases h
        | some q =>
          rw [hr] at h
          simp at h
          have := ih _ _ _ _ hr
          rw [List.length_drop] at this
          subst h
          simp
          omega

end Go.Proofs.Ytmbalnjobcgpkaa.Gl

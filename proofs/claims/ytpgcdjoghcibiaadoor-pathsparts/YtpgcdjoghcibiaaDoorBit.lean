/-
  A number's last bit is 0 or 1; a name made of parts, with one or two slashes between them and one or none ahead: its parts, its first byte, what is left of it behind its first row of slashes; conditions: the parts are something and hold no slash.
-/
import Derived.Test.YtpgcdjoghcibiaaDoorAlive
namespace Go.Proofs.YtpgcdjoghcibiaaDoor
open Go.RowKit Go.Proofs.YtpgcdjoghcibiaaDoor.Nm

theorem bit_is (z : Int) : bits BinOp.and IntKind.i64 z 1 = 0 ∨ bits BinOp.and IntKind.i64 z 1 = 1 := by
  show IntKind.i64.wrap ((BitVec.ofInt 64 z &&& BitVec.ofInt 64 1 : BitVec 64).toNat : Int) = 0 ∨ IntKind.i64.wrap ((BitVec.ofInt 64 z &&& BitVec.ofInt 64 1 : BitVec 64).toNat : Int) = 1
  rw [BitVec.toNat_and, show (BitVec.ofInt 64 1).toNat = 1 by decide, Nat.and_one_is_mod]
  rcases Nat.mod_two_eq_zero_or_one (BitVec.ofInt 64 z).toNat with h | h
  · left; rw [h]; rfl
  · right; rw [h]; rfl

/-- how many slashes stand behind the i-th part -/
def slash (zs : List Int) (i : Nat) : Nat := 1 + (bits BinOp.and IntKind.i64 (zs.getD i 0) 1).toNat
/-- the name behind i rounds -/
def bld (xs : List (List UInt8)) (zs : List Int) : Nat → List UInt8
  | 0 => List.replicate (bits BinOp.and IntKind.i64 (zs.getD 0 0) 1).toNat 47
  | i + 1 => bld xs zs i ++ xs.getD i [] ++ (if i + 1 < xs.length then List.replicate (slash zs (i + 1)) 47 else [])

theorem slash_le (zs : List Int) (i : Nat) : slash zs i ≤ 2 := by
  unfold slash
  rcases bit_is (zs.getD i 0) with h | h <;> rw [h] <;> simp

theorem bld_len (xs : List (List UInt8)) (zs : List Int) (i : Nat) (h : ∀ j, j < i → (xs.getD j []).length ≤ 20) : (bld xs zs i).length ≤ 1 + 22 * i := by
  induction i with
  | zero =>
    unfold bld
    rcases bit_is (zs.getD 0 0) with h | h <;> rw [h] <;> simp
  | succ i ih =>
    have h1 := ih fun j hj => h j (by omega)
    have h2 := h i (by omega)
    have h3 := slash_le zs (i + 1)
    unfold bld
    rw [List.length_append, List.length_append]
    split
    · rw [List.length_replicate]; omega
    · rw [List.length_nil]; omega

/-- the parts so far -/
theorem bld_parts (xs : List (List UInt8)) (zs : List Int) (i : Nat) (hi : i < xs.length) (h : ∀ j, j < i → (xs.getD j []) ≠ [] ∧ ∀ x, x ∈ xs.getD j [] → x ≠ 47) :
    ∀ r, parts (bld xs zs i ++ r) = xs.take i ++ parts r := by
  induction i with
  | zero => intro r; unfold bld; rw [parts_slashes]; rfl
  | succ i ih =>
    intro r
    have ih' := ih (by omega) (fun j hj => h j (by omega))
    obtain ⟨hne, hno⟩ := h i (by omega)
    unfold bld
    rw [if_pos hi, List.append_assoc, List.append_assoc, ih', show slash zs (i + 1) = (bits BinOp.and IntKind.i64 (zs.getD (i + 1) 0) 1).toNat + 1 by unfold slash; omega, List.replicate_succ, List.cons_append, parts_hit _ _ hno, if_neg hne, parts_slashes, ← List.append_assoc]
    congr 1
    rw [List.take_succ_eq_append_getElem (by omega)]
    congr 2
    rw [List.getD_eq_getElem?_getD, List.getElem?_eq_getElem (by omega)]; rfl

theorem bld_all (xs : List (List UInt8)) (zs : List Int) (h1 : 1 ≤ xs.length) (h : ∀ j, j < xs.length → (xs.getD j []) ≠ [] ∧ ∀ x, x ∈ xs.getD j [] → x ≠ 47) :
    parts (bld xs zs xs.length) = xs := by
  obtain ⟨n, hn⟩ : ∃ n, xs.length = n + 1 := ⟨xs.length - 1, by omega⟩
  obtain ⟨hne, hno⟩ := h n (by omega)
  rw [hn, bld, if_neg (by omega), List.append_nil, bld_parts xs zs n (by omega) (fun j hj => h j (by omega)), parts_miss _ hno, if_neg hne]
  rw [List.getD_eq_getElem?_getD, List.getElem?_eq_getElem (by omega), Option.getD_some, ← List.take_succ_eq_append_getElem (by omega), List.take_of_length_le (by omega)]

/-- the name's first byte -/
theorem bld_head (xs : List (List UInt8)) (zs : List Int) (i : Nat) : bits BinOp.and IntKind.i64 (zs.getD 0 0) 1 = 1 → ∃ t, bld xs zs i = 47 :: t := by
  intro hb
  induction i with
  | zero => refine ⟨[], ?_⟩; unfold bld; rw [hb]; rfl
  | succ i ih => obtain ⟨t, e⟩ := ih; unfold bld; rw [e]; exact ⟨_, by rw [List.cons_append, List.cons_append]⟩
theorem bld_first (xs : List (List UInt8)) (zs : List Int) (i : Nat) : bits BinOp.and IntKind.i64 (zs.getD 0 0) 1 = 0 → ∃ t, bld xs zs (i + 1) = xs.getD 0 [] ++ t ∧ (xs.length = 1 → i = 0 → t = []) := by
  intro hb
  induction i with
  | zero =>
    refine ⟨if 0 + 1 < xs.length then List.replicate (slash zs (0 + 1)) 47 else [], ?_, ?_⟩
    · rw [bld, bld, hb]; rfl
    · intro h1 _; rw [if_neg (by omega)]
  | succ i ih =>
    obtain ⟨t, e, _⟩ := ih
    rw [bld, e]
    exact ⟨_, by rw [List.append_assoc, List.append_assoc], fun _ h => by omega⟩

/-- what the parts are behind the first row of slashes -/
theorem parts_strip (l : List UInt8) : (has l = false ∧ strip 1 l = l) ∨ (has l = true ∧ ∃ p, (∀ x, x ∈ p → x ≠ 47) ∧ (∃ t, l = p ++ 47 :: t) ∧ parts l = (if p = [] then [] else [p]) ++ parts (strip 1 l)) := by
  cases h : has l
  · exact Or.inl ⟨rfl, strip_miss _ h⟩
  · obtain ⟨p, k, r, e, hp, hr, hd, _⟩ := three l h
    refine Or.inr ⟨rfl, p, hp, ⟨_, by rw [e, List.replicate_succ, List.cons_append]⟩, ?_⟩
    rw [strip_hit 0 h, hd]
    conv => lhs; rw [e]
    rw [List.replicate_succ, List.cons_append, parts_hit p _ hp, parts_slashes]
    rfl

/-- what is wanted of the name that is stripped once -/
def wanted (xs : List (List UInt8)) (zs : List Int) : List (List UInt8) := if bits BinOp.and IntKind.i64 (zs.getD 0 0) 1 = 0 ∧ xs.length ≠ 1 then xs.drop 1 else xs
theorem bld_strip (xs : List (List UInt8)) (zs : List Int) (h1 : 1 ≤ xs.length) (h : ∀ j, j < xs.length → (xs.getD j []) ≠ [] ∧ ∀ x, x ∈ xs.getD j [] → x ≠ 47) :
    parts (strip 1 (bld xs zs xs.length)) = wanted xs zs := by
  have hall := bld_all xs zs h1 h
  obtain ⟨h0ne, h0no⟩ := h 0 (by omega)
  rcases bit_is (zs.getD 0 0) with hb | hb
  · obtain ⟨t, et, ht⟩ := bld_first xs zs (xs.length - 1) hb
    rw [show xs.length - 1 + 1 = xs.length by omega] at et
    by_cases hn : xs.length = 1
    · rw [wanted, if_neg (fun hh => hh.2 hn)]
      have e : bld xs zs xs.length = xs.getD 0 [] := by rw [et, ht hn (by omega), List.append_nil]
      rw [e, strip_miss 1 (has_of_miss h0no), ← e, hall]
    · rw [wanted, if_pos ⟨hb, hn⟩]
      rcases parts_strip (bld xs zs xs.length) with ⟨hh, _⟩ | ⟨hh, p, hp, ⟨q, eq⟩, hps⟩
      · exfalso
        rw [parts_miss _ (has_false hh)] at hall
        have := congrArg List.length hall
        split at this <;> simp at this <;> omega
      · rw [hall] at hps
        by_cases hpe : p = []
        · exfalso
          rw [hpe] at eq
          rw [et] at eq
          cases hx : xs.getD 0 [] with
          | nil => exact h0ne hx
          | cons a r =>
            rw [hx] at eq
            simp at eq
            exact h0no a (by rw [hx]; simp) eq.1
        · rw [if_neg hpe] at hps
          conv => rhs; rw [hps]
          rfl
  · rw [wanted, if_neg (fun hh => by rw [hb] at hh; exact absurd hh.1 (by decide))]
    obtain ⟨t, et⟩ := bld_head xs zs xs.length hb
    rcases parts_strip (bld xs zs xs.length) with ⟨_, hh⟩ | ⟨hh, p, hp, ⟨q, eq⟩, hps⟩
    · rw [hh, hall]
    · have hpe : p = [] := by
        cases p with
        | nil => rfl
        | cons a r =>
          exfalso
          rw [et] at eq
          simp at eq
          exact hp a (by simp) eq.1.symm
      rw [if_pos hpe, List.nil_append, hall] at hps
      exact hps.symm

theorem base_bld (xs : List (List UInt8)) (zs : List Int) (h1 : 1 ≤ xs.length) (h : ∀ j, j < xs.length → (xs.getD j []) ≠ [] ∧ ∀ x, x ∈ xs.getD j [] → x ≠ 47) :
    base (bld xs zs xs.length) = xs.getD (xs.length - 1) [] := by
  rw [base, bld_all xs zs h1 h, List.getLast?_eq_getElem?, List.getD_eq_getElem?_getD]

end Go.Proofs.YtpgcdjoghcibiaaDoor

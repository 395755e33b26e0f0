/-
  Patterns read into parts, and names matched: the list functions and their laws; no conditions.
-/
import Derived.Test.YthjhihpbilaifaaSPlain
namespace Go.Proofs.Ythjhihpbilaifaa.Gl

def clean (f : Bs) (o : Bool) : Bs := fun c => (f c != o) && c != 47
def neg (l : Tx) : Bool := decide (0 < l.length) && (l.getD 0 0 == 33 || l.getD 0 0 == 94)
def negLen (l : Tx) : Nat := if neg l = true then 1 else 0
def setOf (l : Tx) : Option (Bs × Nat) :=
  (setGo true (l.length + 1) true (l.drop (negLen l)) none_).map fun r => (clean r.1 (neg l), r.2 + negLen l)

abbrev Part := Bool × Bs
def star : Part := (true, none_)
def anyB : Part := (false, clean none_ true)
def lit (c : UInt8) : Part := (false, spn c.toNat c.toNat)
/-- the parts of a pattern -/
def parse : Nat → Bool → Tx → List Part
  | 0, _, _ => []
  | n + 1, op, l =>
    if l = [] then [] else if l.getD 0 0 = 42 then star :: parse n op (l.drop 1)
    else if l.getD 0 0 = 63 then anyB :: parse n op (l.drop 1)
    else if l.getD 0 0 = 91 ∧ (op && !isCls l) = false then
      match setOf (l.drop 1) with
      | some r => (false, r.1) :: parse n op (l.drop (r.2 + 1))
      | none => lit (byteVal true l) :: parse n true (l.drop (byteLen true l))
    else lit (byteVal true l) :: parse n op (l.drop (byteLen true l))
def parts (l : Tx) : List Part := parse l.length false l

/-! matching -/
def starF (g : Tx → Bool) : Tx → Bool
  | [] => g []
  | c :: t => g (c :: t) || (c != 47 && starF g t)
def pm : List Part → Tx → Bool
  | [], s => s.isEmpty
  | p :: ps, s => if p.1 = true then starF (pm ps) s else match s with | [] => false | c :: t => p.2 c.toNat && pm ps t
def hits (p s : Tx) : Bool := pm (parts p) s

theorem negLen_le (l : Tx) : negLen l ≤ l.length := by
  unfold negLen neg
  split
  · rename_i h; simp at h; omega
  · omega
theorem setOf_len {l : Tx} {r} (h : setOf l = some r) : 1 ≤ r.2 ∧ r.2 ≤ l.length := by
  unfold setOf at h
  cases hr : setGo true (l.length + 1) true (l.drop (negLen l)) none_ with
  | none => rw [hr] at h; cases h
  | some q =>
    rw [hr] at h
    simp at h
    have := setGo_len true _ _ _ _ _ hr
    have := negLen_le l
    rw [List.length_drop] at *
    subst h
    simp
    omega
theorem parse_fuel : ∀ n m op l, l.length ≤ n → l.length ≤ m → parse n op l = parse m op l := by
  intro n
  induction n with
  | zero =>
    intro m op l h1 h2
    obtain rfl : l = [] := List.eq_nil_of_length_eq_zero (by omega)
    cases m <;> simp [parse]
  | succ n ih =>
    intro m op l h1 h2
    by_cases hl : l = []
    · subst hl; cases m <;> simp [parse]
    · have hp := List.length_pos_iff.2 hl
      cases m with
      | zero => omega
      | succ m =>
        have hd : ∀ k o, 1 ≤ k → parse n o (l.drop k) = parse m o (l.drop k) := fun k o hk => ih m o _ (by rw [List.length_drop]; omega) (by rw [List.length_drop]; omega)
        unfold parse
        rw [if_neg hl, if_neg hl, hd 1 op (by omega), hd (byteLen true l) op (byteLen_pos true l), hd (byteLen true l) true (byteLen_pos true l)]
        cases hs : setOf (l.drop 1) with
        | none => rfl
        | some r => simp only []; rw [hd (r.2 + 1) op (by omega)]

end Go.Proofs.Ythjhihpbilaifaa.Gl

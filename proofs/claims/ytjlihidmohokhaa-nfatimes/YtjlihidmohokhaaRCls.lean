/-
  What the document's own digit, class, one and classAt answer; condition: the text's length.
-/
import Derived.Test.YtjlihidmohokhaaKBase
namespace Go.Proofs.Ytjlihidmohokhaa
open Go.RowKit Go.Proofs.Ytjlihidmohokhaa.Gl

def nAlpha : Tx := [97, 108, 112, 104, 97]
def nDigit : Tx := [100, 105, 103, 105, 116]
def nUpper : Tx := [117, 112, 112, 101, 114]
def nLower : Tx := [108, 111, 119, 101, 114]
def nAlnum : Tx := [97, 108, 110, 117, 109]
def nSpace : Tx := [115, 112, 97, 99, 101]
/-- the class of a name -/
def named (t : Tx) : Option Bs :=
  if t = nAlpha then some alpha else if t = nDigit then some digit else if t = nUpper then some upper else if t = nLower then some lower else if t = nAlnum then some alnum else if t = nSpace then some space else none

theorem rDigit_any (n : Nat) (w : World) : Calls Try.prog 59 #[.int .u8 n] w fun e w' => e = .returned (.bool (digit n)) ∧ w' = w := by
  by_cases h1 : 48 ≤ n
  · have h1' : (48 : Int) ≤ n := by omega
    by_cases h2 : n ≤ 57
    · have h2' : (n : Int) ≤ 57 := by omega
      have HD := hidden (show digit n = true by simp [digit, spn, h1, h2])
      go_enter Try.func59, Try.ntmps59
      go_wp2
      go_ret
      exact ⟨by rw [HD.out]; rfl, rfl⟩
    · have h2' : ¬ (n : Int) ≤ 57 := by omega
      have h2d : decide ((n : Int) ≤ 57) = false := decide_eq_false h2'
      have HD := hidden (show digit n = false by simp [digit, spn, h2])
      go_enter Try.func59, Try.ntmps59
      go_wp2
      go_ret
      exact ⟨by rw [HD.out]; rfl, rfl⟩
  · have h1' : ¬ (48 : Int) ≤ n := by omega
    have h1d : decide ((48 : Int) ≤ n) = false := decide_eq_false h1'
    have HD := hidden (show digit n = false by simp [digit, spn, h1])
    go_enter Try.func59, Try.ntmps59
    go_wp2
    go_ret
    exact ⟨by rw [HD.out]; rfl, rfl⟩

/-- what class answers, as a value -/
def clsAns (o : Option Bs) (n : Nat) : Value := match o with
  | some f => .tuple #[.bool (f n), .bool true]
  | none => .tuple #[.bool false, .bool false]

set_option maxHeartbeats 4000000 in
theorem cls_alpha (n : Nat) (hn : n < 256) (w : World) : Calls Try.prog 60 #[.string ⟨nAlpha.toArray⟩, .int .u8 n] w fun e w' => e = .returned (.tuple #[.bool (alpha n), .bool true]) ∧ w' = w := by
  unfold nAlpha
  rcases (by omega : (0 ≤ n ∧ n ≤ 64) ∨ (65 ≤ n ∧ n ≤ 90) ∨ (91 ≤ n ∧ n ≤ 96) ∨ (97 ≤ n ∧ n ≤ 122) ∨ (123 ≤ n ∧ n ≤ 255)) with ⟨r1, r2⟩ | ⟨r1, r2⟩ | ⟨r1, r2⟩ | ⟨r1, r2⟩ | ⟨r1, r2⟩
  · skip
    have _ge65 : ¬ (65 : Int) ≤ n := by omega
    have _gd65 : decide ((65 : Int) ≤ n) = false := decide_eq_false _ge65
    have _le90 : (n : Int) ≤ 90 := by omega
    have _ld90 : decide ((n : Int) ≤ 90) = true := decide_eq_true _le90
    have _ge97 : ¬ (97 : Int) ≤ n := by omega
    have _gd97 : decide ((97 : Int) ≤ n) = false := decide_eq_false _ge97
    have _le122 : (n : Int) ≤ 122 := by omega
    have _ld122 : decide ((n : Int) ≤ 122) = true := decide_eq_true _le122
    have HV := hidden (show alpha n = false by simp [alpha, both, spn]; omega)
    go_enter Try.func60, Try.ntmps60
    go_wp2_with fail
    go_ret2
    exact ⟨by rw [HV.out]; rfl, rfl⟩
  · skip
    have _ge65 : (65 : Int) ≤ n := by omega
    have _gd65 : decide ((65 : Int) ≤ n) = true := decide_eq_true _ge65
    have _le90 : (n : Int) ≤ 90 := by omega
    have _ld90 : decide ((n : Int) ≤ 90) = true := decide_eq_true _le90
    have _ge97 : ¬ (97 : Int) ≤ n := by omega
    have _gd97 : decide ((97 : Int) ≤ n) = false := decide_eq_false _ge97
    have _le122 : (n : Int) ≤ 122 := by omega
    have _ld122 : decide ((n : Int) ≤ 122) = true := decide_eq_true _le122
    have HV := hidden (show alpha n = true by simp [alpha, both, spn]; omega)
    go_enter Try.func60, Try.ntmps60
    go_wp2_with fail
    go_ret2
    exact ⟨by rw [HV.out]; rfl, rfl⟩
  · skip
    have _ge65 : (65 : Int) ≤ n := by omega
    have _gd65 : decide ((65 : Int) ≤ n) = true := decide_eq_true _ge65
    have _le90 : ¬ (n : Int) ≤ 90 := by omega
    have _ld90 : decide ((n : Int) ≤ 90) = false := decide_eq_false _le90
    have _ge97 : ¬ (97 : Int) ≤ n := by omega
    have _gd97 : decide ((97 : Int) ≤ n) = false := decide_eq_false _ge97
    have _le122 : (n : Int) ≤ 122 := by omega
    have _ld122 : decide ((n : Int) ≤ 122) = true := decide_eq_true _le122
    have HV := hidden (show alpha n = false by simp [alpha, both, spn]; omega)
    go_enter Try.func60, Try.ntmps60
    go_wp2_with fail
    go_ret2
    exact ⟨by rw [HV.out]; rfl, rfl⟩
  · skip
    have _ge65 : (65 : Int) ≤ n := by omega
    have _gd65 : decide ((65 : Int) ≤ n) = true := decide_eq_true _ge65
    have _le90 : ¬ (n : Int) ≤ 90 := by omega
    have _ld90 : decide ((n : Int) ≤ 90) = false := decide_eq_false _le90
    have _ge97 : (97 : Int) ≤ n := by omega
    have _gd97 : decide ((97 : Int) ≤ n) = true := decide_eq_true _ge97
    have _le122 : (n : Int) ≤ 122 := by omega
    have _ld122 : decide ((n : Int) ≤ 122) = true := decide_eq_true _le122
    have HV := hidden (show alpha n = true by simp [alpha, both, spn]; omega)
    go_enter Try.func60, Try.ntmps60
    go_wp2_with fail
    go_ret2
    exact ⟨by rw [HV.out]; rfl, rfl⟩
  · skip
    have _ge65 : (65 : Int) ≤ n := by omega
    have _gd65 : decide ((65 : Int) ≤ n) = true := decide_eq_true _ge65
    have _le90 : ¬ (n : Int) ≤ 90 := by omega
    have _ld90 : decide ((n : Int) ≤ 90) = false := decide_eq_false _le90
    have _ge97 : (97 : Int) ≤ n := by omega
    have _gd97 : decide ((97 : Int) ≤ n) = true := decide_eq_true _ge97
    have _le122 : ¬ (n : Int) ≤ 122 := by omega
    have _ld122 : decide ((n : Int) ≤ 122) = false := decide_eq_false _le122
    have HV := hidden (show alpha n = false by simp [alpha, both, spn]; omega)
    go_enter Try.func60, Try.ntmps60
    go_wp2_with fail
    go_ret2
    exact ⟨by rw [HV.out]; rfl, rfl⟩

set_option maxHeartbeats 4000000 in
theorem cls_digit (n : Nat) (hn : n < 256) (w : World) : Calls Try.prog 60 #[.string ⟨nDigit.toArray⟩, .int .u8 n] w fun e w' => e = .returned (.tuple #[.bool (digit n), .bool true]) ∧ w' = w := by
  unfold nDigit
  rcases (by omega : (0 ≤ n ∧ n ≤ 64) ∨ (65 ≤ n ∧ n ≤ 90) ∨ (91 ≤ n ∧ n ≤ 96) ∨ (97 ≤ n ∧ n ≤ 122) ∨ (123 ≤ n ∧ n ≤ 255)) with ⟨r1, r2⟩ | ⟨r1, r2⟩ | ⟨r1, r2⟩ | ⟨r1, r2⟩ | ⟨r1, r2⟩
  · skip
    have _ge65 : ¬ (65 : Int) ≤ n := by omega
    have _gd65 : decide ((65 : Int) ≤ n) = false := decide_eq_false _ge65
    have _le90 : (n : Int) ≤ 90 := by omega
    have _ld90 : decide ((n : Int) ≤ 90) = true := decide_eq_true _le90
    have _ge97 : ¬ (97 : Int) ≤ n := by omega
    have _gd97 : decide ((97 : Int) ≤ n) = false := decide_eq_false _ge97
    have _le122 : (n : Int) ≤ 122 := by omega
    have _ld122 : decide ((n : Int) ≤ 122) = true := decide_eq_true _le122
    go_enter Try.func60, Try.ntmps60
    go_wp2_with fail
    refine (rDigit_any n w).mono ?_
    rintro e w2 ⟨rfl, rfl⟩
    go_wp2_with fail
    go_ret2
    exact ⟨rfl, rfl⟩
  · skip
    have _ge65 : (65 : Int) ≤ n := by omega
    have _gd65 : decide ((65 : Int) ≤ n) = true := decide_eq_true _ge65
    have _le90 : (n : Int) ≤ 90 := by omega
    have _ld90 : decide ((n : Int) ≤ 90) = true := decide_eq_true _le90
    have _ge97 : ¬ (97 : Int) ≤ n := by omega
    have _gd97 : decide ((97 : Int) ≤ n) = false := decide_eq_false _ge97
    have _le122 : (n : Int) ≤ 122 := by omega
    have _ld122 : decide ((n : Int) ≤ 122) = true := decide_eq_true _le122
    go_enter Try.func60, Try.ntmps60
    go_wp2_with fail
    refine (rDigit_any n w).mono ?_
    rintro e w2 ⟨rfl, rfl⟩
    go_wp2_with fail
    go_ret2
    exact ⟨rfl, rfl⟩
  · skip
    have _ge65 : (65 : Int) ≤ n := by omega
    have _gd65 : decide ((65 : Int) ≤ n) = true := decide_eq_true _ge65
    have _le90 : ¬ (n : Int) ≤ 90 := by omega
    have _ld90 : decide ((n : Int) ≤ 90) = false := decide_eq_false _le90
    have _ge97 : ¬ (97 : Int) ≤ n := by omega
    have _gd97 : decide ((97 : Int) ≤ n) = false := decide_eq_false _ge97
    have _le122 : (n : Int) ≤ 122 := by omega
    have _ld122 : decide ((n : Int) ≤ 122) = true := decide_eq_true _le122
    go_enter Try.func60, Try.ntmps60
    go_wp2_with fail
    refine (rDigit_any n w).mono ?_
    rintro e w2 ⟨rfl, rfl⟩
    go_wp2_with fail
    go_ret2
    exact ⟨rfl, rfl⟩
  · skip
    have _ge65 : (65 : Int) ≤ n := by omega
    have _gd65 : decide ((65 : Int) ≤ n) = true := decide_eq_true _ge65
    have _le90 : ¬ (n : Int) ≤ 90 := by omega
    have _ld90 : decide ((n : Int) ≤ 90) = false := decide_eq_false _le90
    have _ge97 : (97 : Int) ≤ n := by omega
    have _gd97 : decide ((97 : Int) ≤ n) = true := decide_eq_true _ge97
    have _le122 : (n : Int) ≤ 122 := by omega
    have _ld122 : decide ((n : Int) ≤ 122) = true := decide_eq_true _le122
    go_enter Try.func60, Try.ntmps60
    go_wp2_with fail
    refine (rDigit_any n w).mono ?_
    rintro e w2 ⟨rfl, rfl⟩
    go_wp2_with fail
    go_ret2
    exact ⟨rfl, rfl⟩
  · skip
    have _ge65 : (65 : Int) ≤ n := by omega
    have _gd65 : decide ((65 : Int) ≤ n) = true := decide_eq_true _ge65
    have _le90 : ¬ (n : Int) ≤ 90 := by omega
    have _ld90 : decide ((n : Int) ≤ 90) = false := decide_eq_false _le90
    have _ge97 : (97 : Int) ≤ n := by omega
    have _gd97 : decide ((97 : Int) ≤ n) = true := decide_eq_true _ge97
    have _le122 : ¬ (n : Int) ≤ 122 := by omega
    have _ld122 : decide ((n : Int) ≤ 122) = false := decide_eq_false _le122
    go_enter Try.func60, Try.ntmps60
    go_wp2_with fail
    refine (rDigit_any n w).mono ?_
    rintro e w2 ⟨rfl, rfl⟩
    go_wp2_with fail
    go_ret2
    exact ⟨rfl, rfl⟩

set_option maxHeartbeats 4000000 in
theorem cls_upper (n : Nat) (hn : n < 256) (w : World) : Calls Try.prog 60 #[.string ⟨nUpper.toArray⟩, .int .u8 n] w fun e w' => e = .returned (.tuple #[.bool (upper n), .bool true]) ∧ w' = w := by
  unfold nUpper
  rcases (by omega : (0 ≤ n ∧ n ≤ 64) ∨ (65 ≤ n ∧ n ≤ 90) ∨ (91 ≤ n ∧ n ≤ 96) ∨ (97 ≤ n ∧ n ≤ 122) ∨ (123 ≤ n ∧ n ≤ 255)) with ⟨r1, r2⟩ | ⟨r1, r2⟩ | ⟨r1, r2⟩ | ⟨r1, r2⟩ | ⟨r1, r2⟩
  · skip
    have _ge65 : ¬ (65 : Int) ≤ n := by omega
    have _gd65 : decide ((65 : Int) ≤ n) = false := decide_eq_false _ge65
    have _le90 : (n : Int) ≤ 90 := by omega
    have _ld90 : decide ((n : Int) ≤ 90) = true := decide_eq_true _le90
    have _ge97 : ¬ (97 : Int) ≤ n := by omega
    have _gd97 : decide ((97 : Int) ≤ n) = false := decide_eq_false _ge97
    have _le122 : (n : Int) ≤ 122 := by omega
    have _ld122 : decide ((n : Int) ≤ 122) = true := decide_eq_true _le122
    have HV := hidden (show upper n = false by simp [upper, spn]; omega)
    go_enter Try.func60, Try.ntmps60
    go_wp2_with fail
    go_ret2
    exact ⟨by rw [HV.out]; rfl, rfl⟩
  · skip
    have _ge65 : (65 : Int) ≤ n := by omega
    have _gd65 : decide ((65 : Int) ≤ n) = true := decide_eq_true _ge65
    have _le90 : (n : Int) ≤ 90 := by omega
    have _ld90 : decide ((n : Int) ≤ 90) = true := decide_eq_true _le90
    have _ge97 : ¬ (97 : Int) ≤ n := by omega
    have _gd97 : decide ((97 : Int) ≤ n) = false := decide_eq_false _ge97
    have _le122 : (n : Int) ≤ 122 := by omega
    have _ld122 : decide ((n : Int) ≤ 122) = true := decide_eq_true _le122
    have HV := hidden (show upper n = true by simp [upper, spn]; omega)
    go_enter Try.func60, Try.ntmps60
    go_wp2_with fail
    go_ret2
    exact ⟨by rw [HV.out]; rfl, rfl⟩
  · skip
    have _ge65 : (65 : Int) ≤ n := by omega
    have _gd65 : decide ((65 : Int) ≤ n) = true := decide_eq_true _ge65
    have _le90 : ¬ (n : Int) ≤ 90 := by omega
    have _ld90 : decide ((n : Int) ≤ 90) = false := decide_eq_false _le90
    have _ge97 : ¬ (97 : Int) ≤ n := by omega
    have _gd97 : decide ((97 : Int) ≤ n) = false := decide_eq_false _ge97
    have _le122 : (n : Int) ≤ 122 := by omega
    have _ld122 : decide ((n : Int) ≤ 122) = true := decide_eq_true _le122
    have HV := hidden (show upper n = false by simp [upper, spn]; omega)
    go_enter Try.func60, Try.ntmps60
    go_wp2_with fail
    go_ret2
    exact ⟨by rw [HV.out]; rfl, rfl⟩
  · skip
    have _ge65 : (65 : Int) ≤ n := by omega
    have _gd65 : decide ((65 : Int) ≤ n) = true := decide_eq_true _ge65
    have _le90 : ¬ (n : Int) ≤ 90 := by omega
    have _ld90 : decide ((n : Int) ≤ 90) = false := decide_eq_false _le90
    have _ge97 : (97 : Int) ≤ n := by omega
    have _gd97 : decide ((97 : Int) ≤ n) = true := decide_eq_true _ge97
    have _le122 : (n : Int) ≤ 122 := by omega
    have _ld122 : decide ((n : Int) ≤ 122) = true := decide_eq_true _le122
    have HV := hidden (show upper n = false by simp [upper, spn]; omega)
    go_enter Try.func60, Try.ntmps60
    go_wp2_with fail
    go_ret2
    exact ⟨by rw [HV.out]; rfl, rfl⟩
  · skip
    have _ge65 : (65 : Int) ≤ n := by omega
    have _gd65 : decide ((65 : Int) ≤ n) = true := decide_eq_true _ge65
    have _le90 : ¬ (n : Int) ≤ 90 := by omega
    have _ld90 : decide ((n : Int) ≤ 90) = false := decide_eq_false _le90
    have _ge97 : (97 : Int) ≤ n := by omega
    have _gd97 : decide ((97 : Int) ≤ n) = true := decide_eq_true _ge97
    have _le122 : ¬ (n : Int) ≤ 122 := by omega
    have _ld122 : decide ((n : Int) ≤ 122) = false := decide_eq_false _le122
    have HV := hidden (show upper n = false by simp [upper, spn]; omega)
    go_enter Try.func60, Try.ntmps60
    go_wp2_with fail
    go_ret2
    exact ⟨by rw [HV.out]; rfl, rfl⟩

set_option maxHeartbeats 4000000 in
theorem cls_lower (n : Nat) (hn : n < 256) (w : World) : Calls Try.prog 60 #[.string ⟨nLower.toArray⟩, .int .u8 n] w fun e w' => e = .returned (.tuple #[.bool (lower n), .bool true]) ∧ w' = w := by
  unfold nLower
  rcases (by omega : (0 ≤ n ∧ n ≤ 64) ∨ (65 ≤ n ∧ n ≤ 90) ∨ (91 ≤ n ∧ n ≤ 96) ∨ (97 ≤ n ∧ n ≤ 122) ∨ (123 ≤ n ∧ n ≤ 255)) with ⟨r1, r2⟩ | ⟨r1, r2⟩ | ⟨r1, r2⟩ | ⟨r1, r2⟩ | ⟨r1, r2⟩
  · skip
    have _ge65 : ¬ (65 : Int) ≤ n := by omega
    have _gd65 : decide ((65 : Int) ≤ n) = false := decide_eq_false _ge65
    have _le90 : (n : Int) ≤ 90 := by omega
    have _ld90 : decide ((n : Int) ≤ 90) = true := decide_eq_true _le90
    have _ge97 : ¬ (97 : Int) ≤ n := by omega
    have _gd97 : decide ((97 : Int) ≤ n) = false := decide_eq_false _ge97
    have _le122 : (n : Int) ≤ 122 := by omega
    have _ld122 : decide ((n : Int) ≤ 122) = true := decide_eq_true _le122
    have HV := hidden (show lower n = false by simp [lower, spn]; omega)
    go_enter Try.func60, Try.ntmps60
    go_wp2_with fail
    go_ret2
    exact ⟨by rw [HV.out]; rfl, rfl⟩
  · skip
    have _ge65 : (65 : Int) ≤ n := by omega
    have _gd65 : decide ((65 : Int) ≤ n) = true := decide_eq_true _ge65
    have _le90 : (n : Int) ≤ 90 := by omega
    have _ld90 : decide ((n : Int) ≤ 90) = true := decide_eq_true _le90
    have _ge97 : ¬ (97 : Int) ≤ n := by omega
    have _gd97 : decide ((97 : Int) ≤ n) = false := decide_eq_false _ge97
    have _le122 : (n : Int) ≤ 122 := by omega
    have _ld122 : decide ((n : Int) ≤ 122) = true := decide_eq_true _le122
    have HV := hidden (show lower n = false by simp [lower, spn]; omega)
    go_enter Try.func60, Try.ntmps60
    go_wp2_with fail
    go_ret2
    exact ⟨by rw [HV.out]; rfl, rfl⟩
  · skip
    have _ge65 : (65 : Int) ≤ n := by omega
    have _gd65 : decide ((65 : Int) ≤ n) = true := decide_eq_true _ge65
    have _le90 : ¬ (n : Int) ≤ 90 := by omega
    have _ld90 : decide ((n : Int) ≤ 90) = false := decide_eq_false _le90
    have _ge97 : ¬ (97 : Int) ≤ n := by omega
    have _gd97 : decide ((97 : Int) ≤ n) = false := decide_eq_false _ge97
    have _le122 : (n : Int) ≤ 122 := by omega
    have _ld122 : decide ((n : Int) ≤ 122) = true := decide_eq_true _le122
    have HV := hidden (show lower n = false by simp [lower, spn]; omega)
    go_enter Try.func60, Try.ntmps60
    go_wp2_with fail
    go_ret2
    exact ⟨by rw [HV.out]; rfl, rfl⟩
  · skip
    have _ge65 : (65 : Int) ≤ n := by omega
    have _gd65 : decide ((65 : Int) ≤ n) = true := decide_eq_true _ge65
    have _le90 : ¬ (n : Int) ≤ 90 := by omega
    have _ld90 : decide ((n : Int) ≤ 90) = false := decide_eq_false _le90
    have _ge97 : (97 : Int) ≤ n := by omega
    have _gd97 : decide ((97 : Int) ≤ n) = true := decide_eq_true _ge97
    have _le122 : (n : Int) ≤ 122 := by omega
    have _ld122 : decide ((n : Int) ≤ 122) = true := decide_eq_true _le122
    have HV := hidden (show lower n = true by simp [lower, spn]; omega)
    go_enter Try.func60, Try.ntmps60
    go_wp2_with fail
    go_ret2
    exact ⟨by rw [HV.out]; rfl, rfl⟩
  · skip
    have _ge65 : (65 : Int) ≤ n := by omega
    have _gd65 : decide ((65 : Int) ≤ n) = true := decide_eq_true _ge65
    have _le90 : ¬ (n : Int) ≤ 90 := by omega
    have _ld90 : decide ((n : Int) ≤ 90) = false := decide_eq_false _le90
    have _ge97 : (97 : Int) ≤ n := by omega
    have _gd97 : decide ((97 : Int) ≤ n) = true := decide_eq_true _ge97
    have _le122 : ¬ (n : Int) ≤ 122 := by omega
    have _ld122 : decide ((n : Int) ≤ 122) = false := decide_eq_false _le122
    have HV := hidden (show lower n = false by simp [lower, spn]; omega)
    go_enter Try.func60, Try.ntmps60
    go_wp2_with fail
    go_ret2
    exact ⟨by rw [HV.out]; rfl, rfl⟩

set_option maxHeartbeats 4000000 in
theorem cls_alnum (n : Nat) (hn : n < 256) (w : World) : Calls Try.prog 60 #[.string ⟨nAlnum.toArray⟩, .int .u8 n] w fun e w' => e = .returned (.tuple #[.bool (alnum n), .bool true]) ∧ w' = w := by
  unfold nAlnum
  rcases (by omega : (0 ≤ n ∧ n ≤ 64) ∨ (65 ≤ n ∧ n ≤ 90) ∨ (91 ≤ n ∧ n ≤ 96) ∨ (97 ≤ n ∧ n ≤ 122) ∨ (123 ≤ n ∧ n ≤ 255)) with ⟨r1, r2⟩ | ⟨r1, r2⟩ | ⟨r1, r2⟩ | ⟨r1, r2⟩ | ⟨r1, r2⟩
  · skip
    have _ge65 : ¬ (65 : Int) ≤ n := by omega
    have _gd65 : decide ((65 : Int) ≤ n) = false := decide_eq_false _ge65
    have _le90 : (n : Int) ≤ 90 := by omega
    have _ld90 : decide ((n : Int) ≤ 90) = true := decide_eq_true _le90
    have _ge97 : ¬ (97 : Int) ≤ n := by omega
    have _gd97 : decide ((97 : Int) ≤ n) = false := decide_eq_false _ge97
    have _le122 : (n : Int) ≤ 122 := by omega
    have _ld122 : decide ((n : Int) ≤ 122) = true := decide_eq_true _le122
    have HV := hidden (show alnum n = digit n by rw [Bool.eq_iff_iff]; simp [alnum, both, spn, digit]; omega)
    go_enter Try.func60, Try.ntmps60
    go_wp2_with fail
    refine (rDigit_any n w).mono ?_
    rintro e w2 ⟨rfl, rfl⟩
    go_wp2_with fail
    go_ret2
    exact ⟨by rw [HV.out]; rfl, rfl⟩
  · skip
    have _ge65 : (65 : Int) ≤ n := by omega
    have _gd65 : decide ((65 : Int) ≤ n) = true := decide_eq_true _ge65
    have _le90 : (n : Int) ≤ 90 := by omega
    have _ld90 : decide ((n : Int) ≤ 90) = true := decide_eq_true _le90
    have _ge97 : ¬ (97 : Int) ≤ n := by omega
    have _gd97 : decide ((97 : Int) ≤ n) = false := decide_eq_false _ge97
    have _le122 : (n : Int) ≤ 122 := by omega
    have _ld122 : decide ((n : Int) ≤ 122) = true := decide_eq_true _le122
    have HV := hidden (show alnum n = true by simp [alnum, both, spn]; omega)
    go_enter Try.func60, Try.ntmps60
    go_wp2_with fail
    go_ret2
    exact ⟨by rw [HV.out]; rfl, rfl⟩
  · skip
    have _ge65 : (65 : Int) ≤ n := by omega
    have _gd65 : decide ((65 : Int) ≤ n) = true := decide_eq_true _ge65
    have _le90 : ¬ (n : Int) ≤ 90 := by omega
    have _ld90 : decide ((n : Int) ≤ 90) = false := decide_eq_false _le90
    have _ge97 : ¬ (97 : Int) ≤ n := by omega
    have _gd97 : decide ((97 : Int) ≤ n) = false := decide_eq_false _ge97
    have _le122 : (n : Int) ≤ 122 := by omega
    have _ld122 : decide ((n : Int) ≤ 122) = true := decide_eq_true _le122
    have HV := hidden (show alnum n = digit n by rw [Bool.eq_iff_iff]; simp [alnum, both, spn, digit]; omega)
    go_enter Try.func60, Try.ntmps60
    go_wp2_with fail
    refine (rDigit_any n w).mono ?_
    rintro e w2 ⟨rfl, rfl⟩
    go_wp2_with fail
    go_ret2
    exact ⟨by rw [HV.out]; rfl, rfl⟩
  · skip
    have _ge65 : (65 : Int) ≤ n := by omega
    have _gd65 : decide ((65 : Int) ≤ n) = true := decide_eq_true _ge65
    have _le90 : ¬ (n : Int) ≤ 90 := by omega
    have _ld90 : decide ((n : Int) ≤ 90) = false := decide_eq_false _le90
    have _ge97 : (97 : Int) ≤ n := by omega
    have _gd97 : decide ((97 : Int) ≤ n) = true := decide_eq_true _ge97
    have _le122 : (n : Int) ≤ 122 := by omega
    have _ld122 : decide ((n : Int) ≤ 122) = true := decide_eq_true _le122
    have HV := hidden (show alnum n = true by simp [alnum, both, spn]; omega)
    go_enter Try.func60, Try.ntmps60
    go_wp2_with fail
    go_ret2
    exact ⟨by rw [HV.out]; rfl, rfl⟩
  · skip
    have _ge65 : (65 : Int) ≤ n := by omega
    have _gd65 : decide ((65 : Int) ≤ n) = true := decide_eq_true _ge65
    have _le90 : ¬ (n : Int) ≤ 90 := by omega
    have _ld90 : decide ((n : Int) ≤ 90) = false := decide_eq_false _le90
    have _ge97 : (97 : Int) ≤ n := by omega
    have _gd97 : decide ((97 : Int) ≤ n) = true := decide_eq_true _ge97
    have _le122 : ¬ (n : Int) ≤ 122 := by omega
    have _ld122 : decide ((n : Int) ≤ 122) = false := decide_eq_false _le122
    have HV := hidden (show alnum n = digit n by rw [Bool.eq_iff_iff]; simp [alnum, both, spn, digit]; omega)
    go_enter Try.func60, Try.ntmps60
    go_wp2_with fail
    refine (rDigit_any n w).mono ?_
    rintro e w2 ⟨rfl, rfl⟩
    go_wp2_with fail
    go_ret2
    exact ⟨by rw [HV.out]; rfl, rfl⟩

set_option maxHeartbeats 4000000 in
theorem cls_space (n : Nat) (hn : n < 256) (w : World) : Calls Try.prog 60 #[.string ⟨nSpace.toArray⟩, .int .u8 n] w fun e w' => e = .returned (.tuple #[.bool (space n), .bool true]) ∧ w' = w := by
  unfold nSpace
  rcases (by omega : (0 ≤ n ∧ n ≤ 8) ∨ (9 ≤ n ∧ n ≤ 13) ∨ (14 ≤ n ∧ n ≤ 31) ∨ (32 ≤ n ∧ n ≤ 32) ∨ (33 ≤ n ∧ n ≤ 64) ∨ (65 ≤ n ∧ n ≤ 90) ∨ (91 ≤ n ∧ n ≤ 96) ∨ (97 ≤ n ∧ n ≤ 122) ∨ (123 ≤ n ∧ n ≤ 255)) with ⟨r1, r2⟩ | ⟨r1, r2⟩ | ⟨r1, r2⟩ | ⟨r1, r2⟩ | ⟨r1, r2⟩ | ⟨r1, r2⟩ | ⟨r1, r2⟩ | ⟨r1, r2⟩ | ⟨r1, r2⟩
  · skip
    have _ge65 : ¬ (65 : Int) ≤ n := by omega
    have _gd65 : decide ((65 : Int) ≤ n) = false := decide_eq_false _ge65
    have _le90 : (n : Int) ≤ 90 := by omega
    have _ld90 : decide ((n : Int) ≤ 90) = true := decide_eq_true _le90
    have _ge97 : ¬ (97 : Int) ≤ n := by omega
    have _gd97 : decide ((97 : Int) ≤ n) = false := decide_eq_false _ge97
    have _le122 : (n : Int) ≤ 122 := by omega
    have _ld122 : decide ((n : Int) ≤ 122) = true := decide_eq_true _le122
    have _ge9 : ¬ (9 : Int) ≤ n := by omega
    have _gd9 : decide ((9 : Int) ≤ n) = false := decide_eq_false _ge9
    have _le13 : (n : Int) ≤ 13 := by omega
    have _ld13 : decide ((n : Int) ≤ 13) = true := decide_eq_true _le13
    have _eq32 : ¬ (n : Int) = 32 := by omega
    have _ed32 : ((n : Int) == 32) = false := by rw [beq_eq_false_iff_ne]; omega
    have HV := hidden (show space n = false by simp [space, both, spn]; omega)
    go_enter Try.func60, Try.ntmps60
    go_wp2_with fail
    go_ret2
    exact ⟨by rw [HV.out]; rfl, rfl⟩
  · skip
    have _ge65 : ¬ (65 : Int) ≤ n := by omega
    have _gd65 : decide ((65 : Int) ≤ n) = false := decide_eq_false _ge65
    have _le90 : (n : Int) ≤ 90 := by omega
    have _ld90 : decide ((n : Int) ≤ 90) = true := decide_eq_true _le90
    have _ge97 : ¬ (97 : Int) ≤ n := by omega
    have _gd97 : decide ((97 : Int) ≤ n) = false := decide_eq_false _ge97
    have _le122 : (n : Int) ≤ 122 := by omega
    have _ld122 : decide ((n : Int) ≤ 122) = true := decide_eq_true _le122
    have _ge9 : (9 : Int) ≤ n := by omega
    have _gd9 : decide ((9 : Int) ≤ n) = true := decide_eq_true _ge9
    have _le13 : (n : Int) ≤ 13 := by omega
    have _ld13 : decide ((n : Int) ≤ 13) = true := decide_eq_true _le13
    have _eq32 : ¬ (n : Int) = 32 := by omega
    have _ed32 : ((n : Int) == 32) = false := by rw [beq_eq_false_iff_ne]; omega
    have HV := hidden (show space n = true by simp [space, both, spn]; omega)
    go_enter Try.func60, Try.ntmps60
    go_wp2_with fail
    go_ret2
    exact ⟨by rw [HV.out]; rfl, rfl⟩
  · skip
    have _ge65 : ¬ (65 : Int) ≤ n := by omega
    have _gd65 : decide ((65 : Int) ≤ n) = false := decide_eq_false _ge65
    have _le90 : (n : Int) ≤ 90 := by omega
    have _ld90 : decide ((n : Int) ≤ 90) = true := decide_eq_true _le90
    have _ge97 : ¬ (97 : Int) ≤ n := by omega
    have _gd97 : decide ((97 : Int) ≤ n) = false := decide_eq_false _ge97
    have _le122 : (n : Int) ≤ 122 := by omega
    have _ld122 : decide ((n : Int) ≤ 122) = true := decide_eq_true _le122
    have _ge9 : (9 : Int) ≤ n := by omega
    have _gd9 : decide ((9 : Int) ≤ n) = true := decide_eq_true _ge9
    have _le13 : ¬ (n : Int) ≤ 13 := by omega
    have _ld13 : decide ((n : Int) ≤ 13) = false := decide_eq_false _le13
    have _eq32 : ¬ (n : Int) = 32 := by omega
    have _ed32 : ((n : Int) == 32) = false := by rw [beq_eq_false_iff_ne]; omega
    have HV := hidden (show space n = false by simp [space, both, spn]; omega)
    go_enter Try.func60, Try.ntmps60
    go_wp2_with fail
    go_ret2
    exact ⟨by rw [HV.out]; rfl, rfl⟩
  · skip
    have _ge65 : ¬ (65 : Int) ≤ n := by omega
    have _gd65 : decide ((65 : Int) ≤ n) = false := decide_eq_false _ge65
    have _le90 : (n : Int) ≤ 90 := by omega
    have _ld90 : decide ((n : Int) ≤ 90) = true := decide_eq_true _le90
    have _ge97 : ¬ (97 : Int) ≤ n := by omega
    have _gd97 : decide ((97 : Int) ≤ n) = false := decide_eq_false _ge97
    have _le122 : (n : Int) ≤ 122 := by omega
    have _ld122 : decide ((n : Int) ≤ 122) = true := decide_eq_true _le122
    have _ge9 : (9 : Int) ≤ n := by omega
    have _gd9 : decide ((9 : Int) ≤ n) = true := decide_eq_true _ge9
    have _le13 : ¬ (n : Int) ≤ 13 := by omega
    have _ld13 : decide ((n : Int) ≤ 13) = false := decide_eq_false _le13
    have _eq32 : (n : Int) = 32 := by omega
    have _ed32 : ((n : Int) == 32) = true := by rw [beq_iff_eq]; omega
    have HV := hidden (show space n = true by simp [space, both, spn]; omega)
    go_enter Try.func60, Try.ntmps60
    go_wp2_with fail
    go_ret2
    exact ⟨by rw [HV.out]; rfl, rfl⟩
  · skip
    have _ge65 : ¬ (65 : Int) ≤ n := by omega
    have _gd65 : decide ((65 : Int) ≤ n) = false := decide_eq_false _ge65
    have _le90 : (n : Int) ≤ 90 := by omega
    have _ld90 : decide ((n : Int) ≤ 90) = true := decide_eq_true _le90
    have _ge97 : ¬ (97 : Int) ≤ n := by omega
    have _gd97 : decide ((97 : Int) ≤ n) = false := decide_eq_false _ge97
    have _le122 : (n : Int) ≤ 122 := by omega
    have _ld122 : decide ((n : Int) ≤ 122) = true := decide_eq_true _le122
    have _ge9 : (9 : Int) ≤ n := by omega
    have _gd9 : decide ((9 : Int) ≤ n) = true := decide_eq_true _ge9
    have _le13 : ¬ (n : Int) ≤ 13 := by omega
    have _ld13 : decide ((n : Int) ≤ 13) = false := decide_eq_false _le13
    have _eq32 : ¬ (n : Int) = 32 := by omega
    have _ed32 : ((n : Int) == 32) = false := by rw [beq_eq_false_iff_ne]; omega
    have HV := hidden (show space n = false by simp [space, both, spn]; omega)
    go_enter Try.func60, Try.ntmps60
    go_wp2_with fail
    go_ret2
    exact ⟨by rw [HV.out]; rfl, rfl⟩
  · skip
    have _ge65 : (65 : Int) ≤ n := by omega
    have _gd65 : decide ((65 : Int) ≤ n) = true := decide_eq_true _ge65
    have _le90 : (n : Int) ≤ 90 := by omega
    have _ld90 : decide ((n : Int) ≤ 90) = true := decide_eq_true _le90
    have _ge97 : ¬ (97 : Int) ≤ n := by omega
    have _gd97 : decide ((97 : Int) ≤ n) = false := decide_eq_false _ge97
    have _le122 : (n : Int) ≤ 122 := by omega
    have _ld122 : decide ((n : Int) ≤ 122) = true := decide_eq_true _le122
    have _ge9 : (9 : Int) ≤ n := by omega
    have _gd9 : decide ((9 : Int) ≤ n) = true := decide_eq_true _ge9
    have _le13 : ¬ (n : Int) ≤ 13 := by omega
    have _ld13 : decide ((n : Int) ≤ 13) = false := decide_eq_false _le13
    have _eq32 : ¬ (n : Int) = 32 := by omega
    have _ed32 : ((n : Int) == 32) = false := by rw [beq_eq_false_iff_ne]; omega
    have HV := hidden (show space n = false by simp [space, both, spn]; omega)
    go_enter Try.func60, Try.ntmps60
    go_wp2_with fail
    go_ret2
    exact ⟨by rw [HV.out]; rfl, rfl⟩
  · skip
    have _ge65 : (65 : Int) ≤ n := by omega
    have _gd65 : decide ((65 : Int) ≤ n) = true := decide_eq_true _ge65
    have _le90 : ¬ (n : Int) ≤ 90 := by omega
    have _ld90 : decide ((n : Int) ≤ 90) = false := decide_eq_false _le90
    have _ge97 : ¬ (97 : Int) ≤ n := by omega
    have _gd97 : decide ((97 : Int) ≤ n) = false := decide_eq_false _ge97
    have _le122 : (n : Int) ≤ 122 := by omega
    have _ld122 : decide ((n : Int) ≤ 122) = true := decide_eq_true _le122
    have _ge9 : (9 : Int) ≤ n := by omega
    have _gd9 : decide ((9 : Int) ≤ n) = true := decide_eq_true _ge9
    have _le13 : ¬ (n : Int) ≤ 13 := by omega
    have _ld13 : decide ((n : Int) ≤ 13) = false := decide_eq_false _le13
    have _eq32 : ¬ (n : Int) = 32 := by omega
    have _ed32 : ((n : Int) == 32) = false := by rw [beq_eq_false_iff_ne]; omega
    have HV := hidden (show space n = false by simp [space, both, spn]; omega)
    go_enter Try.func60, Try.ntmps60
    go_wp2_with fail
    go_ret2
    exact ⟨by rw [HV.out]; rfl, rfl⟩
  · skip
    have _ge65 : (65 : Int) ≤ n := by omega
    have _gd65 : decide ((65 : Int) ≤ n) = true := decide_eq_true _ge65
    have _le90 : ¬ (n : Int) ≤ 90 := by omega
    have _ld90 : decide ((n : Int) ≤ 90) = false := decide_eq_false _le90
    have _ge97 : (97 : Int) ≤ n := by omega
    have _gd97 : decide ((97 : Int) ≤ n) = true := decide_eq_true _ge97
    have _le122 : (n : Int) ≤ 122 := by omega
    have _ld122 : decide ((n : Int) ≤ 122) = true := decide_eq_true _le122
    have _ge9 : (9 : Int) ≤ n := by omega
    have _gd9 : decide ((9 : Int) ≤ n) = true := decide_eq_true _ge9
    have _le13 : ¬ (n : Int) ≤ 13 := by omega
    have _ld13 : decide ((n : Int) ≤ 13) = false := decide_eq_false _le13
    have _eq32 : ¬ (n : Int) = 32 := by omega
    have _ed32 : ((n : Int) == 32) = false := by rw [beq_eq_false_iff_ne]; omega
    have HV := hidden (show space n = false by simp [space, both, spn]; omega)
    go_enter Try.func60, Try.ntmps60
    go_wp2_with fail
    go_ret2
    exact ⟨by rw [HV.out]; rfl, rfl⟩
  · skip
    have _ge65 : (65 : Int) ≤ n := by omega
    have _gd65 : decide ((65 : Int) ≤ n) = true := decide_eq_true _ge65
    have _le90 : ¬ (n : Int) ≤ 90 := by omega
    have _ld90 : decide ((n : Int) ≤ 90) = false := decide_eq_false _le90
    have _ge97 : (97 : Int) ≤ n := by omega
    have _gd97 : decide ((97 : Int) ≤ n) = true := decide_eq_true _ge97
    have _le122 : ¬ (n : Int) ≤ 122 := by omega
    have _ld122 : decide ((n : Int) ≤ 122) = false := decide_eq_false _le122
    have _ge9 : (9 : Int) ≤ n := by omega
    have _gd9 : decide ((9 : Int) ≤ n) = true := decide_eq_true _ge9
    have _le13 : ¬ (n : Int) ≤ 13 := by omega
    have _ld13 : decide ((n : Int) ≤ 13) = false := decide_eq_false _le13
    have _eq32 : ¬ (n : Int) = 32 := by omega
    have _ed32 : ((n : Int) == 32) = false := by rw [beq_eq_false_iff_ne]; omega
    have HV := hidden (show space n = false by simp [space, both, spn]; omega)
    go_enter Try.func60, Try.ntmps60
    go_wp2_with fail
    go_ret2
    exact ⟨by rw [HV.out]; rfl, rfl⟩

set_option maxHeartbeats 4000000 in
theorem cls_none (t : Tx) (ht : named t = none) (n : Nat) (hn : n < 256) (w : World) : Calls Try.prog 60 #[.string ⟨t.toArray⟩, .int .u8 n] w fun e w' => e = .returned (.tuple #[.bool false, .bool false]) ∧ w' = w := by
  have hne : ¬ t = nAlpha ∧ ¬ t = nDigit ∧ ¬ t = nUpper ∧ ¬ t = nLower ∧ ¬ t = nAlnum ∧ ¬ t = nSpace := by
    refine ⟨?_, ?_, ?_, ?_, ?_, ?_⟩ <;> (rintro rfl; simp [named, nAlpha, nDigit, nUpper, nLower, nAlnum, nSpace] at ht)
  have e0 : (t == nAlpha) = false := by rw [beq_eq_false_iff_ne]; exact hne.1
  have e1 : (t == nDigit) = false := by rw [beq_eq_false_iff_ne]; exact hne.2.1
  have e2 : (t == nUpper) = false := by rw [beq_eq_false_iff_ne]; exact hne.2.2.1
  have e3 : (t == nLower) = false := by rw [beq_eq_false_iff_ne]; exact hne.2.2.2.1
  have e4 : (t == nAlnum) = false := by rw [beq_eq_false_iff_ne]; exact hne.2.2.2.2.1
  have e5 : (t == nSpace) = false := by rw [beq_eq_false_iff_ne]; exact hne.2.2.2.2.2
  unfold nAlpha at e0
  unfold nDigit at e1
  unfold nUpper at e2
  unfold nLower at e3
  unfold nAlnum at e4
  unfold nSpace at e5
  clear hne ht
  rcases (by omega : (0 ≤ n ∧ n ≤ 64) ∨ (65 ≤ n ∧ n ≤ 90) ∨ (91 ≤ n ∧ n ≤ 96) ∨ (97 ≤ n ∧ n ≤ 122) ∨ (123 ≤ n ∧ n ≤ 255)) with ⟨r1, r2⟩ | ⟨r1, r2⟩ | ⟨r1, r2⟩ | ⟨r1, r2⟩ | ⟨r1, r2⟩
  · skip
    have _ge65 : ¬ (65 : Int) ≤ n := by omega
    have _gd65 : decide ((65 : Int) ≤ n) = false := decide_eq_false _ge65
    have _le90 : (n : Int) ≤ 90 := by omega
    have _ld90 : decide ((n : Int) ≤ 90) = true := decide_eq_true _le90
    have _ge97 : ¬ (97 : Int) ≤ n := by omega
    have _gd97 : decide ((97 : Int) ≤ n) = false := decide_eq_false _ge97
    have _le122 : (n : Int) ≤ 122 := by omega
    have _ld122 : decide ((n : Int) ≤ 122) = true := decide_eq_true _le122
    go_enter Try.func60, Try.ntmps60
    go_wp2_with fail
    go_ret2
    exact ⟨rfl, rfl⟩
  · skip
    have _ge65 : (65 : Int) ≤ n := by omega
    have _gd65 : decide ((65 : Int) ≤ n) = true := decide_eq_true _ge65
    have _le90 : (n : Int) ≤ 90 := by omega
    have _ld90 : decide ((n : Int) ≤ 90) = true := decide_eq_true _le90
    have _ge97 : ¬ (97 : Int) ≤ n := by omega
    have _gd97 : decide ((97 : Int) ≤ n) = false := decide_eq_false _ge97
    have _le122 : (n : Int) ≤ 122 := by omega
    have _ld122 : decide ((n : Int) ≤ 122) = true := decide_eq_true _le122
    go_enter Try.func60, Try.ntmps60
    go_wp2_with fail
    go_ret2
    exact ⟨rfl, rfl⟩
  · skip
    have _ge65 : (65 : Int) ≤ n := by omega
    have _gd65 : decide ((65 : Int) ≤ n) = true := decide_eq_true _ge65
    have _le90 : ¬ (n : Int) ≤ 90 := by omega
    have _ld90 : decide ((n : Int) ≤ 90) = false := decide_eq_false _le90
    have _ge97 : ¬ (97 : Int) ≤ n := by omega
    have _gd97 : decide ((97 : Int) ≤ n) = false := decide_eq_false _ge97
    have _le122 : (n : Int) ≤ 122 := by omega
    have _ld122 : decide ((n : Int) ≤ 122) = true := decide_eq_true _le122
    go_enter Try.func60, Try.ntmps60
    go_wp2_with fail
    go_ret2
    exact ⟨rfl, rfl⟩
  · skip
    have _ge65 : (65 : Int) ≤ n := by omega
    have _gd65 : decide ((65 : Int) ≤ n) = true := decide_eq_true _ge65
    have _le90 : ¬ (n : Int) ≤ 90 := by omega
    have _ld90 : decide ((n : Int) ≤ 90) = false := decide_eq_false _le90
    have _ge97 : (97 : Int) ≤ n := by omega
    have _gd97 : decide ((97 : Int) ≤ n) = true := decide_eq_true _ge97
    have _le122 : (n : Int) ≤ 122 := by omega
    have _ld122 : decide ((n : Int) ≤ 122) = true := decide_eq_true _le122
    go_enter Try.func60, Try.ntmps60
    go_wp2_with fail
    go_ret2
    exact ⟨rfl, rfl⟩
  · skip
    have _ge65 : (65 : Int) ≤ n := by omega
    have _gd65 : decide ((65 : Int) ≤ n) = true := decide_eq_true _ge65
    have _le90 : ¬ (n : Int) ≤ 90 := by omega
    have _ld90 : decide ((n : Int) ≤ 90) = false := decide_eq_false _le90
    have _ge97 : (97 : Int) ≤ n := by omega
    have _gd97 : decide ((97 : Int) ≤ n) = true := decide_eq_true _ge97
    have _le122 : ¬ (n : Int) ≤ 122 := by omega
    have _ld122 : decide ((n : Int) ≤ 122) = false := decide_eq_false _le122
    go_enter Try.func60, Try.ntmps60
    go_wp2_with fail
    go_ret2
    exact ⟨rfl, rfl⟩

theorem refClass_any (t : Tx) (n : Nat) (hn : n < 256) (w : World) : Calls Try.prog 60 #[S t, .int .u8 n] w fun e w' => e = .returned (clsAns (named t) n) ∧ w' = w := by
  unfold S
  by_cases h0 : t = nAlpha
  · subst h0; exact cls_alpha n hn w
  by_cases h1 : t = nDigit
  · subst h1; exact cls_digit n hn w
  by_cases h2 : t = nUpper
  · subst h2; exact cls_upper n hn w
  by_cases h3 : t = nLower
  · subst h3; exact cls_lower n hn w
  by_cases h4 : t = nAlnum
  · subst h4; exact cls_alnum n hn w
  by_cases h5 : t = nSpace
  · subst h5; exact cls_space n hn w
  have hno : named t = none := by unfold named; rw [if_neg h0, if_neg h1, if_neg h2, if_neg h3, if_neg h4, if_neg h5]
  rw [hno]
  exact cls_none t hno n hn w

end Go.Proofs.Ytjlihidmohokhaa

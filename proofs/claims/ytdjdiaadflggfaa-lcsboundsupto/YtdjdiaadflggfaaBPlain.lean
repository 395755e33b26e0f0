
/-
  How long the longest common row is of any two ends of two rows, told by bits: which line makes it no longer, and what a sum with its carry turns; what a word's sum does, bit by bit; what holds where far lines are left out; no conditions but those that each states.
-/
import Derived.Test.YtdjdiaadflggfaaHPlain
import Derived.Test.YtdjdiaadflggfaaSPlain
namespace Go.Proofs.Ytdjdiaadflggfaa.Ol
open Go.Proofs.Ytdjdiaadflggfaa.Ln

abbrev Bs := Nat → Bool
def ddGo (f : Nat → Nat) (m : Nat → Bool) : Nat → Nat
  | 0 => 0
  | k + 1 => if m k = true then f k + 1 else max (f (k + 1)) (ddGo f m k)
/-- how long the longest common row is of the last i of one row and the last k of the other, where mt tells which are one -/
def dd (mt : Nat → Nat → Bool) : Nat → Nat → Nat
  | 0 => fun _ => 0
  | i + 1 => ddGo (dd mt i) (mt i)
theorem dd_zero (mt : Nat → Nat → Bool) (k : Nat) : dd mt 0 k = 0 := rfl
theorem dd_zeror (mt : Nat → Nat → Bool) (i : Nat) : dd mt i 0 = 0 := by cases i <;> rfl
theorem dd_succ (mt : Nat → Nat → Bool) (i k : Nat) : dd mt (i + 1) (k + 1) = if mt i k = true then dd mt i k + 1 else max (dd mt i (k + 1)) (dd mt (i + 1) k) := rfl
theorem dd_step (mt : Nat → Nat → Bool) : ∀ s i k, i + k ≤ s → dd mt i k ≤ dd mt (i + 1) k ∧ dd mt (i + 1) k ≤ dd mt i k + 1 ∧ dd mt i k ≤ dd mt i (k + 1) ∧ dd mt i (k + 1) ≤ dd mt i k + 1 := by
  intro s
  induction s with
  | zero =>
    intro i k h
    obtain rfl : i = 0 := by omega
    obtain rfl : k = 0 := by omega
    rw [dd_zero, dd_zero, dd_zeror]; omega
  | succ s ih =>
    intro i k h
    have h1 : dd mt i k ≤ dd mt (i + 1) k ∧ dd mt (i + 1) k ≤ dd mt i k + 1 := by
      cases k with
      | zero => rw [dd_zeror, dd_zeror]; omega
      | succ k =>
        have a := ih i k (by omega)
        rw [dd_succ]
        split <;> omega
    have h2 : dd mt i k ≤ dd mt i (k + 1) ∧ dd mt i (k + 1) ≤ dd mt i k + 1 := by
      cases i with
      | zero => rw [dd_zero, dd_zero]; omega
      | succ i =>
        have a := ih i k (by omega)
        rw [dd_succ]
        split <;> omega
    exact ⟨h1.1, h1.2, h2.1, h2.2⟩
/-- does one line more make it no longer -/
def idl (mt : Nat → Nat → Bool) (k i : Nat) : Bool := decide (dd mt (i + 1) k = dd mt i k)
/-- does one line more of the other make it longer -/
def cb (mt : Nat → Nat → Bool) (k i : Nat) : Bool := decide (dd mt i k < dd mt i (k + 1))
/-- what a sum of bits turns: V before, H behind, g the marks, cr the carries -/
def Rp (V g H cr : Bs) : Prop := cr 0 = false ∧ ∀ p, cr (p + 1) = (V p && (g p || cr p)) ∧ H p = (cr p || (V p && !g p))
theorem rp_idl (mt : Nat → Nat → Bool) (k : Nat) : Rp (idl mt k) (fun i => mt i k) (idl mt (k + 1)) (cb mt k) := by
  refine ⟨by simp [cb, dd_zero], fun i => ?_⟩
  obtain ⟨a1, a2, a3, a4⟩ := dd_step mt (i + k) i k (Nat.le_refl _)
  have e := dd_succ mt i k
  unfold idl cb
  constructor
  · rw [Bool.eq_iff_iff]
    by_cases hm : mt i k = true
    · rw [if_pos hm] at e; simp [hm]; omega
    · rw [if_neg hm] at e; simp [hm]; omega
  · rw [Bool.eq_iff_iff]
    by_cases hm : mt i k = true
    · rw [if_pos hm] at e; simp [hm]; omega
    · rw [if_neg hm] at e; simp [hm]; omega
theorem idl_top {mt : Nat → Nat → Bool} {n : Nat} (h : ∀ i k, n ≤ i → mt i k = false) : ∀ k i, n ≤ i → dd mt i k = dd mt n k := by
  intro k
  induction k with
  | zero => intro i _; rw [dd_zeror, dd_zeror]
  | succ k ih =>
    intro i hi
    induction i with
    | zero => obtain rfl : n = 0 := by omega
              rfl
    | succ i ihi =>
      by_cases e : n = i + 1
      · rw [e]
      · rw [dd_succ, if_neg (by rw [h i k (by omega)]; simp), ihi (by omega), ih (i + 1) (by omega)]
        have := (dd_step mt (n + k) n k (Nat.le_refl _)).2.2.1
        omega
theorem idl_zero (mt : Nat → Nat → Bool) (i : Nat) : idl mt 0 i = true := by simp [idl, dd_zeror]
/-- how many are not idle -/
def cnb (f : Bs) : Nat → Nat
  | 0 => 0
  | n + 1 => cnb f n + (if f n = true then 1 else 0)
theorem cnb_dd (mt : Nat → Nat → Bool) (k n : Nat) : cnb (fun i => !idl mt k i) n = dd mt n k := by
  induction n with
  | zero => rfl
  | succ n ih =>
    rw [cnb, ih]
    obtain ⟨a1, a2, _⟩ := dd_step mt (n + k) n k (Nat.le_refl _)
    unfold idl
    by_cases h : dd mt (n + 1) k = dd mt n k <;> simp [h] <;> omega
theorem cnb_add (f : Bs) (a b : Nat) : cnb f (a + b) = cnb f a + cnb (fun i => f (a + i)) b := by
  induction b with
  | zero => rfl
  | succ b ih => rw [← Nat.add_assoc, cnb, cnb, ih]; omega
theorem cnb_le (f : Bs) (n : Nat) : cnb f n ≤ n := by
  induction n with
  | zero => exact Nat.le_refl _
  | succ n ih => rw [cnb]; split <;> omega
theorem cnb_congr {f g : Bs} {n : Nat} (h : ∀ i, i < n → f i = g i) : cnb f n = cnb g n := by
  induction n with
  | zero => rfl
  | succ n ih => rw [cnb, cnb, ih (fun i hi => h i (by omega)), h n (by omega)]

/-- what the sum of a word, its marks and a carry is, bit by bit -/
theorem word_sum (V g H cr : Bs) (j : Nat) (h : ∀ p, cr (p + 1) = (V p && (g p || cr p)) ∧ H p = (cr p || (V p && !g p))) :
    ((Gl.word V j + (Gl.word V j &&& Gl.word g j) + (cr (64 * j)).toNat) % 18446744073709551616) ||| (Gl.word V j &&& (18446744073709551615 - Gl.word g j)) = Gl.word H j ∧
    (Gl.word V j + (Gl.word V j &&& Gl.word g j) + (cr (64 * j)).toNat) / 18446744073709551616 = (cr (64 * j + 64)).toNat := by
  have hx := Gl.word_lt V j
  have hy : Gl.word V j &&& Gl.word g j < 18446744073709551616 := Nat.lt_of_le_of_lt Nat.and_le_left hx
  obtain ⟨x, ex⟩ : ∃ x : BitVec 64, x = BitVec.ofNat 64 (Gl.word V j) := ⟨_, rfl⟩
  obtain ⟨y, ey⟩ : ∃ y : BitVec 64, y = BitVec.ofNat 64 (Gl.word V j &&& Gl.word g j) := ⟨_, rfl⟩
  have nx : x.toNat = Gl.word V j := by rw [ex, BitVec.toNat_ofNat, Nat.mod_eq_of_lt (by simpa using hx)]
  have ny : y.toNat = Gl.word V j &&& Gl.word g j := by rw [ey, BitVec.toNat_ofNat, Nat.mod_eq_of_lt (by simpa using hy)]
  have bx : ∀ i, i < 64 → x.getLsbD i = V (64 * j + i) := fun i hi => by
    rw [BitVec.getLsbD, nx, Gl.word_bit]; simp [hi]
  have bY : ∀ i, i < 64 → y.getLsbD i = (V (64 * j + i) && g (64 * j + i)) := fun i hi => by
    rw [BitVec.getLsbD, ny, Nat.testBit_and, Gl.word_bit, Gl.word_bit]; simp [hi]
  have hc : ∀ i, i ≤ 64 → BitVec.carry i x y (cr (64 * j)) = cr (64 * j + i) := by
    intro i
    induction i with
    | zero => intro _; rw [BitVec.carry_zero]; rfl
    | succ i ih =>
      intro hi
      rw [BitVec.carry_succ, ih (by omega), bx i (by omega), bY i (by omega), ← Nat.add_assoc, (h (64 * j + i)).1]
      cases V (64 * j + i) <;> cases g (64 * j + i) <;> cases cr (64 * j + i) <;> rfl
  have hs : (x + y + BitVec.setWidth 64 (BitVec.ofBool (cr (64 * j)))).toNat = (Gl.word V j + (Gl.word V j &&& Gl.word g j) + (cr (64 * j)).toNat) % 18446744073709551616 := by
    have e1 : (BitVec.setWidth 64 (BitVec.ofBool (cr (64 * j)))).toNat = (cr (64 * j)).toNat := by cases cr (64 * j) <;> rfl
    rw [BitVec.toNat_add, BitVec.toNat_add, nx, ny, e1]
    simp only [Nat.reducePow, Nat.mod_add_mod]
  constructor
  · apply Nat.eq_of_testBit_eq
    intro i
    rw [← hs, Gl.word_andNot, Nat.testBit_or, Gl.word_bit, Gl.word_bit]
    by_cases hi : i < 64
    · have e := BitVec.getLsbD_add_add_bool hi x y (cr (64 * j))
      rw [BitVec.getLsbD] at e
      rw [e, hc i (by omega), bx i hi, bY i hi, (h (64 * j + i)).2]
      simp only [hi, decide_true, Bool.true_and]
      cases V (64 * j + i) <;> cases g (64 * j + i) <;> cases cr (64 * j + i) <;> rfl
    · rw [Nat.testBit_lt_two_pow (Nat.lt_of_lt_of_le (BitVec.isLt _) (Nat.pow_le_pow_right (by decide) (by omega)))]
      simp [hi]
  · have e := hc 64 (Nat.le_refl _)
    rw [BitVec.carry, nx, ny] at e
    simp only [Nat.reducePow, Nat.mod_eq_of_lt hx, Nat.mod_eq_of_lt hy] at e
    rw [← e]
    have : (cr (64 * j)).toNat ≤ 1 := by cases cr (64 * j) <;> decide
    by_cases hge : 18446744073709551616 ≤ Gl.word V j + (Gl.word V j &&& Gl.word g j) + (cr (64 * j)).toNat
    · rw [decide_eq_true hge]; simp only [Bool.toNat_true]; omega
    · rw [decide_eq_false hge]; simp only [Bool.toNat_false]; omega

/-- only such lines are one as are not too far from each other -/
def bnd (mt near : Nat → Nat → Bool) : Nat → Nat → Bool := fun i k => mt i k && near i k
theorem bnd_le (mt near : Nat → Nat → Bool) : ∀ i k, dd (bnd mt near) i k ≤ dd mt i k := by
  intro i
  induction i with
  | zero => intro k; exact Nat.le_refl _
  | succ i ih =>
    intro k
    induction k with
    | zero => rw [dd_zeror, dd_zeror]; exact Nat.le_refl _
    | succ k ihk =>
      have h1 := ih k
      have h2 := ih (k + 1)
      rw [dd_succ, dd_succ]
      by_cases hm : mt i k = true
      · have := dd_step mt (i + k) i k (Nat.le_refl _)
        rw [if_pos hm]
        by_cases hn : bnd mt near i k = true
        · rw [if_pos hn]; omega
        · rw [if_neg hn]; omega
      · rw [if_neg hm, if_neg (by unfold bnd; simp [hm])]; omega
theorem dd_le (mt : Nat → Nat → Bool) (i k : Nat) : dd mt i k ≤ i ∧ dd mt i k ≤ k := by
  induction i generalizing k with
  | zero => rw [dd_zero]; omega
  | succ i ih =>
    induction k with
    | zero => rw [dd_zeror]; omega
    | succ k ihk =>
      have := ih k
      have := ih (k + 1)
      rw [dd_succ]; split <;> omega
/-- a place from which no row can be had but with so many more changes -/
def Cst (mt : Nat → Nat → Bool) (n m wd i k : Nat) : Prop := (n - i : Int) - (m - k) + (i + k) - 2 * dd mt i k ≤ wd ∧ (m - k : Int) - (n - i) + (i + k) - 2 * dd mt i k ≤ wd
/-- where the whole is had with so many changes, what is left is told right too -/
theorem bnd_same {mt near : Nat → Nat → Bool} {n m wd : Nat} (hn : ∀ i k, i < n → k < m → mt i k = true → (n - m : Int) - (i - k) - (i - k) ≤ wd → (i - k : Int) - (n - m) + (i - k) ≤ wd → near i k = true) :
    ∀ s i k, i + k ≤ s → i ≤ n → k ≤ m → Cst mt n m wd i k → dd (bnd mt near) i k = dd mt i k := by
  intro s
  induction s with
  | zero =>
    intro i k h _ _ _
    obtain rfl : i = 0 := by omega
    rfl
  | succ s ih =>
    intro i k h hi hk hc
    unfold Cst at hc ih
    cases i with
    | zero => rfl
    | succ i =>
      cases k with
      | zero => rw [dd_zeror, dd_zeror]
      | succ k =>
        have st := dd_step mt (i + k) i k (Nat.le_refl _)
        have le := dd_le mt i k
        have b1 := bnd_le mt near i (k + 1)
        have b2 := bnd_le mt near (i + 1) k
        rw [dd_succ] at hc ⊢
        rw [dd_succ]
        by_cases hm : mt i k = true
        · rw [if_pos hm] at hc ⊢
          have := hn i k (by omega) (by omega) hm (by omega) (by omega)
          rw [if_pos (by unfold bnd; rw [hm, this]; rfl), ih i k (by omega) (by omega) (by omega) (by omega)]
        · rw [if_neg hm] at hc ⊢
          rw [if_neg (by unfold bnd; simp [hm])]
          by_cases hle : dd mt (i + 1) k ≤ dd mt i (k + 1)
          · have := ih i (k + 1) (by omega) (by omega) (by omega) (by omega)
            omega
          · have := ih (i + 1) k (by omega) (by omega) (by omega) (by omega)
            omega
end Go.Proofs.Ytdjdiaadflggfaa.Ol

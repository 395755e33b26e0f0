
/-
  The program's own table in memory: its nine cells, the words of its bits, what was turned, its stops; what each store and each append leaves; conditions: which rows are the call's own.
-/
import Derived.Test.YtmbalnjobcgpkaaHDiff
import Derived.Test.YtmbalnjobcgpkaaSPlain
import Derived.Test.YtmbalnjobcgpkaaIBase
import Derived.Test.YtmbalnjobcgpkaaORange
import Derived.Test.YtmbalnjobcgpkaaORow
namespace Go.Proofs.Ytmbalnjobcgpkaa.Ol
open Go.Proofs.Ytmbalnjobcgpkaa.Ln

abbrev Bs := Nat → Bool
def ddGo (f : Nat → Nat) (m : Nat → Bool) : Nat → Nat
  | 0 => 0
  | k + 1 => if m k = true then f k + 1 else max (f (k + 1)) (ddGo f m k)
/-- how long the longest common row is of the last i of one row and the last k of the other, where mt tells which are one -/
def dd (mt : Nat → Nat → Bool) : Nat → Nat → Nat
  | 0 => fun _ => 0
  | i + 1 => ddGo (dd mt i) (mt i)
theorem dd_zero (mt : Nat → Nat → Bool) (k : Nat) : dd mt 0 k = 0 := rfl
theorem dd_zeror (mt : Nat → Nat → Bool) (i : Nat) : dd mt i 0 = 0 := by cases i <;> rfl
theorem dd_succ (mt : Nat → Nat → Bool) (i k : Nat) : dd mt (i + 1) (k + 1) = if mt i k = true then dd mt i k + 1 else max (dd mt i (k + 1)) (dd mt (i + 1) k) := rfl
theorem dd_step (mt : Nat → Nat → Bool) : ∀ s i k, i + k ≤ s → dd mt i k ≤ dd mt (i + 1) k ∧ dd mt (i + 1) k ≤ dd mt i k + 1 ∧ dd mt i k ≤ dd mt i (k + 1) ∧ dd mt i (k + 1) ≤ dd mt i k + 1 := by
  intro s
  induction s with
  | zero =>
    intro i k h
    obtain rfl : i = 0 := by omega
    obtain rfl : k = 0 := by omega
    rw [dd_zero, dd_zero, dd_zeror]; omega
  | succ s ih =>
    intro i k h
    have h1 : dd mt i k ≤ dd mt (i + 1) k ∧ dd mt (i + 1) k ≤ dd mt i k + 1 := by
      cases k with
      | zero => rw [dd_zeror, dd_zeror]; omega
      | succ k =>
        have a := ih i k (by omega)
        rw [dd_succ]
        split <;> omega
    have h2 : dd mt i k ≤ dd mt i (k + 1) ∧ dd mt i (k + 1) ≤ dd mt i k + 1 := by
      cases i with
      | zero => rw [dd_zero, dd_zero]; omega
      | succ i =>
        have a := ih i k (by omega)
        rw [dd_succ]
        split <;> omega
    exact ⟨h1.1, h1.2, h2.1, h2.2⟩
/-- does one line more make it no longer -/
def idl (mt : Nat → Nat → Bool) (k i : Nat) : Bool := decide (dd mt (i + 1) k = dd mt i k)
/-- does one line more of the other make it longer -/
def cbB (mt : Nat → Nat → Bool) (k i : Nat) : Bool := decide (dd mt i k < dd mt i (k + 1))
/-- what a sum of bits turns: V before, H behind, g the marks, cr the carries -/
def Rp (V g H cr : Bs) : Prop := cr 0 = false ∧ ∀ p, cr (p + 1) = (V p && (g p || cr p)) ∧ H p = (cr p || (V p && !g p))
theorem rp_idl (mt : Nat → Nat → Bool) (k : Nat) : Rp (idl mt k) (fun i => mt i k) (idl mt (k + 1)) (cbB mt k) := by
  refine ⟨by simp [cbB, dd_zero], fun i => ?_⟩
  obtain ⟨a1, a2, a3, a4⟩ := dd_step mt (i + k) i k (Nat.le_refl _)
  have e := dd_succ mt i k
  unfold idl cbB
  constructor
  · rw [Bool.eq_iff_iff]
    by_cases hm : mt i k = true
    · rw [if_pos hm] at e; simp [hm]; omega
    · rw [if_neg hm] at e; simp [hm]; omega
  · rw [Bool.eq_iff_iff]
    by_cases hm : mt i k = true
    · rw [if_pos hm] at e; simp [hm]; omega
    · rw [if_neg hm] at e; simp [hm]; omega
theorem idl_top {mt : Nat → Nat → Bool} {n : Nat} (h : ∀ i k, n ≤ i → mt i k = false) : ∀ k i, n ≤ i → dd mt i k = dd mt n k := by
  intro k
  induction k with
  | zero => intro i _; rw [dd_zeror, dd_zeror]
  | succ k ih =>
    intro i hi
    induction i with
    | zero => obtain rfl : n = 0 := by omega
              rfl
    | succ i ihi =>
      by_cases e : n = i + 1
      · rw [e]
      · rw [dd_succ, if_neg (by rw [h i k (by omega)]; simp), ihi (by omega), ih (i + 1) (by omega)]
        have := (dd_step mt (n + k) n k (Nat.le_refl _)).2.2.1
        omega
theorem idl_zero (mt : Nat → Nat → Bool) (i : Nat) : idl mt 0 i = true := by simp [idl, dd_zeror]
/-- how many are not idle -/
def cnb (f : Bs) : Nat → Nat
  | 0 => 0
  | n + 1 => cnb f n + (if f n = true then 1 else 0)
theorem cnb_dd (mt : Nat → Nat → Bool) (k n : Nat) : cnb (fun i => !idl mt k i) n = dd mt n k := by
  induction n with
  | zero => rfl
  | succ n ih =>
    rw [cnb, ih]
    obtain ⟨a1, a2, _⟩ := dd_step mt (n + k) n k (Nat.le_refl _)
    unfold idl
    by_cases h : dd mt (n + 1) k = dd mt n k <;> simp [h] <;> omega
theorem cnb_add (f : Bs) (a b : Nat) : cnb f (a + b) = cnb f a + cnb (fun i => f (a + i)) b := by
  induction b with
  | zero => rfl
  | succ b ih => rw [← Nat.add_assoc, cnb, cnb, ih]; omega
theorem cnb_le (f : Bs) (n : Nat) : cnb f n ≤ n := by
  induction n with
  | zero => exact Nat.le_refl _
  | succ n ih => rw [cnb]; split <;> omega
theorem cnb_congr {f g : Bs} {n : Nat} (h : ∀ i, i < n → f i = g i) : cnb f n = cnb g n := by
  induction n with
  | zero => rfl
  | succ n ih => rw [cnb, cnb, ih (fun i hi => h i (by omega)), h n (by omega)]

/-- what the sum of a word, its marks and a carry is, bit by bit -/
theorem word_sum (V g H cr : Bs) (j : Nat) (h : ∀ p, cr (p + 1) = (V p && (g p || cr p)) ∧ H p = (cr p || (V p && !g p))) :
    ((Gl.word V j + (Gl.word V j &&& Gl.word g j) + (cr (64 * j)).toNat) % 18446744073709551616) ||| (Gl.word V j &&& (18446744073709551615 - Gl.word g j)) = Gl.word H j ∧
    (Gl.word V j + (Gl.word V j &&& Gl.word g j) + (cr (64 * j)).toNat) / 18446744073709551616 = (cr (64 * j + 64)).toNat := by
  have hx := Gl.word_lt V j
  have hy : Gl.word V j &&& Gl.word g j < 18446744073709551616 := Nat.lt_of_le_of_lt Nat.and_le_left hx
  obtain ⟨x, ex⟩ : ∃ x : BitVec 64, x = BitVec.ofNat 64 (Gl.word V j) := ⟨_, rfl⟩
  obtain ⟨y, ey⟩ : ∃ y : BitVec 64, y = BitVec.ofNat 64 (Gl.word V j &&& Gl.word g j) := ⟨_, rfl⟩
  have nx : x.toNat = Gl.word V j := by rw [ex, BitVec.toNat_ofNat, Nat.mod_eq_of_lt (by simpa using hx)]
  have ny : y.toNat = Gl.word V j &&& Gl.word g j := by rw [ey, BitVec.toNat_ofNat, Nat.mod_eq_of_lt (by simpa using hy)]
  have bx : ∀ i, i < 64 → x.getLsbD i = V (64 * j + i) := fun i hi => by
    rw [BitVec.getLsbD, nx, Gl.word_bit]; simp [hi]
  have bY : ∀ i, i < 64 → y.getLsbD i = (V (64 * j + i) && g (64 * j + i)) := fun i hi => by
    rw [BitVec.getLsbD, ny, Nat.testBit_and, Gl.word_bit, Gl.word_bit]; simp [hi]
  have hc : ∀ i, i ≤ 64 → BitVec.carry i x y (cr (64 * j)) = cr (64 * j + i) := by
    intro i
    induction i with
    | zero => intro _; rw [BitVec.carry_zero]; rfl
    | succ i ih =>
      intro hi
      rw [BitVec.carry_succ, ih (by omega), bx i (by omega), bY i (by omega), ← Nat.add_assoc, (h (64 * j + i)).1]
      cases V (64 * j + i) <;> cases g (64 * j + i) <;> cases cr (64 * j + i) <;> rfl
  have hs : (x + y + BitVec.setWidth 64 (BitVec.ofBool (cr (64 * j)))).toNat = (Gl.word V j + (Gl.word V j &&& Gl.word g j) + (cr (64 * j)).toNat) % 18446744073709551616 := by
    have e1 : (BitVec.setWidth 64 (BitVec.ofBool (cr (64 * j)))).toNat = (cr (64 * j)).toNat := by cases cr (64 * j) <;> rfl
    rw [BitVec.toNat_add, BitVec.toNat_add, nx, ny, e1]
    simp only [Nat.reducePow, Nat.mod_add_mod]
  constructor
  · apply Nat.eq_of_testBit_eq
    intro i
    rw [← hs, Gl.word_andNot, Nat.testBit_or, Gl.word_bit, Gl.word_bit]
    by_cases hi : i < 64
    · have e := BitVec.getLsbD_add_add_bool hi x y (cr (64 * j))
      rw [BitVec.getLsbD] at e
      rw [e, hc i (by omega), bx i hi, bY i hi, (h (64 * j + i)).2]
      simp only [hi, decide_true, Bool.true_and]
      cases V (64 * j + i) <;> cases g (64 * j + i) <;> cases cr (64 * j + i) <;> rfl
    · rw [Nat.testBit_lt_two_pow (Nat.lt_of_lt_of_le (BitVec.isLt _) (Nat.pow_le_pow_right (by decide) (by omega)))]
      simp [hi]
  · have e := hc 64 (Nat.le_refl _)
    rw [BitVec.carry, nx, ny] at e
    simp only [Nat.reducePow, Nat.mod_eq_of_lt hx, Nat.mod_eq_of_lt hy] at e
    rw [← e]
    have : (cr (64 * j)).toNat ≤ 1 := by cases cr (64 * j) <;> decide
    by_cases hge : 18446744073709551616 ≤ Gl.word V j + (Gl.word V j &&& Gl.word g j) + (cr (64 * j)).toNat
    · rw [decide_eq_true hge]; simp only [Bool.toNat_true]; omega
    · rw [decide_eq_false hge]; simp only [Bool.toNat_false]; omega

/-- only such lines are one as are not too far from each other -/
def bnd (mt near : Nat → Nat → Bool) : Nat → Nat → Bool := fun i k => mt i k && near i k
theorem bnd_le (mt near : Nat → Nat → Bool) : ∀ i k, dd (bnd mt near) i k ≤ dd mt i k := by
  intro i
  induction i with
  | zero => intro k; exact Nat.le_refl _
  | succ i ih =>
    intro k
    induction k with
    | zero => rw [dd_zeror, dd_zeror]; exact Nat.le_refl _
    | succ k ihk =>
      have h1 := ih k
      have h2 := ih (k + 1)
      rw [dd_succ, dd_succ]
      by_cases hm : mt i k = true
      · have := dd_step mt (i + k) i k (Nat.le_refl _)
        rw [if_pos hm]
        by_cases hn : bnd mt near i k = true
        · rw [if_pos hn]; omega
        · rw [if_neg hn]; omega
      · rw [if_neg hm, if_neg (by unfold bnd; simp [hm])]; omega
theorem dd_le (mt : Nat → Nat → Bool) (i k : Nat) : dd mt i k ≤ i ∧ dd mt i k ≤ k := by
  induction i generalizing k with
  | zero => rw [dd_zero]; omega
  | succ i ih =>
    induction k with
    | zero => rw [dd_zeror]; omega
    | succ k ihk =>
      have := ih k
      have := ih (k + 1)
      rw [dd_succ]; split <;> omega
/-- a place from which no row can be had but with so many more changes -/
def Cst (mt : Nat → Nat → Bool) (n m wd i k : Nat) : Prop := (n - i : Int) - (m - k) + (i + k) - 2 * dd mt i k ≤ wd ∧ (m - k : Int) - (n - i) + (i + k) - 2 * dd mt i k ≤ wd
/-- where the whole is had with so many changes, what is left is told right too -/
theorem bnd_same {mt near : Nat → Nat → Bool} {n m wd : Nat} (hn : ∀ i k, i < n → k < m → mt i k = true → (n - m : Int) - (i - k) - (i - k) ≤ wd → (i - k : Int) - (n - m) + (i - k) ≤ wd → near i k = true) :
    ∀ s i k, i + k ≤ s → i ≤ n → k ≤ m → Cst mt n m wd i k → dd (bnd mt near) i k = dd mt i k := by
  intro s
  induction s with
  | zero =>
    intro i k h _ _ _
    obtain rfl : i = 0 := by omega
    rfl
  | succ s ih =>
    intro i k h hi hk hc
    unfold Cst at hc ih
    cases i with
    | zero => rfl
    | succ i =>
      cases k with
      | zero => rw [dd_zeror, dd_zeror]
      | succ k =>
        have st := dd_step mt (i + k) i k (Nat.le_refl _)
        have le := dd_le mt i k
        have b1 := bnd_le mt near i (k + 1)
        have b2 := bnd_le mt near (i + 1) k
        rw [dd_succ] at hc ⊢
        rw [dd_succ]
        by_cases hm : mt i k = true
        · rw [if_pos hm] at hc ⊢
          have := hn i k (by omega) (by omega) hm (by omega) (by omega)
          rw [if_pos (by unfold bnd; rw [hm, this]; rfl), ih i k (by omega) (by omega) (by omega) (by omega)]
        · rw [if_neg hm] at hc ⊢
          rw [if_neg (by unfold bnd; simp [hm])]
          by_cases hle : dd mt (i + 1) k ≤ dd mt i (k + 1)
          · have := ih i (k + 1) (by omega) (by omega) (by omega) (by omega)
            omega
          · have := ih (i + 1) k (by omega) (by omega) (by omega) (by omega)
            omega
end Go.Proofs.Ytmbalnjobcgpkaa.Ol

namespace Go.Proofs.Ytmbalnjobcgpkaa
open Go.RowKit Go.Proofs.Ytmbalnjobcgpkaa.Ln Go.Proofs.Ytmbalnjobcgpkaa.Ol

/-- the table in its block -/
def TbC (W : World) (b : Nat) (c0 c1 c2 c3 c4 c5 c6 c7 c8 : Value) : Prop := W.heap[b]? = some (.cells #[c0, c1, c2, c3, c4, c5, c6, c7, c8] 88 (0, 0))
section
variable {W W' : World} {b : Nat} {c0 c1 c2 c3 c4 c5 c6 c7 c8 : Value}
theorem TbC.lt (h : TbC W b c0 c1 c2 c3 c4 c5 c6 c7 c8) : b < W.heap.size := (Array.getElem?_eq_some_iff.1 h).1
theorem TbC.cells (h : TbC W b c0 c1 c2 c3 c4 c5 c6 c7 c8) : W.cell? ⟨b, 0, none⟩ = some c0 ∧ W.cell? ⟨b, 1, none⟩ = some c1 ∧ W.cell? ⟨b, 2, none⟩ = some c2 ∧ W.cell? ⟨b, 3, none⟩ = some c3 ∧ W.cell? ⟨b, 4, none⟩ = some c4 ∧ W.cell? ⟨b, 5, none⟩ = some c5 ∧ W.cell? ⟨b, 6, none⟩ = some c6 ∧ W.cell? ⟨b, 7, none⟩ = some c7 ∧ W.cell? ⟨b, 8, none⟩ = some c8 := by
  unfold World.cell?; rw [show W.heap[b]? = _ from h]; exact ⟨rfl, rfl, rfl, rfl, rfl, rfl, rfl, rfl, rfl⟩
theorem TbC.thaw (h : TbC W b c0 c1 c2 c3 c4 c5 c6 c7 c8) (i : Nat) : W.frozen? ⟨b, i, none⟩ = false := by simp [World.frozen?, show W.heap[b]? = _ from h]
theorem TbC.keep (h : TbC W b c0 c1 c2 c3 c4 c5 c6 c7 c8) (hb : W'.heap[b]? = W.heap[b]?) : TbC W' b c0 c1 c2 c3 c4 c5 c6 c7 c8 := hb.trans h
theorem TbC.later (h : TbC W b c0 c1 c2 c3 c4 c5 c6 c7 c8) (hb : Below W.heap.size W W') : TbC W' b c0 c1 c2 c3 c4 c5 c6 c7 c8 := h.keep (hb.block b h.lt)
theorem TbC.alloc (h : TbC W b c0 c1 c2 c3 c4 c5 c6 c7 c8) (o : Obj) : TbC (W.alloc o) b c0 c1 c2 c3 c4 c5 c6 c7 c8 := h.later (bel_alloc (Below.refl _ _) o)
theorem TbC.other (h : TbC W b c0 c1 c2 c3 c4 c5 c6 c7 c8) {c i : Nat} {u : Value} (hc : b ≠ c) : TbC (W.setCell ⟨c, i, none⟩ u) b c0 c1 c2 c3 c4 c5 c6 c7 c8 := h.keep (heap_setCell_ne _ _ _ _ _ hc)
theorem TbC.drewN (h : TbC W b c0 c1 c2 c3 c4 c5 c6 c7 c8) (n : Nat) : TbC (W.drewN n) b c0 c1 c2 c3 c4 c5 c6 c7 c8 := h.keep rfl
theorem TbC.drew (h : TbC W b c0 c1 c2 c3 c4 c5 c6 c7 c8) : TbC W.drew b c0 c1 c2 c3 c4 c5 c6 c7 c8 := h.keep rfl
theorem TbC.set0 (h : TbC W b c0 c1 c2 c3 c4 c5 c6 c7 c8) (u : Value) : TbC (W.setCell ⟨b, 0, none⟩ u) b u c1 c2 c3 c4 c5 c6 c7 c8 := by
  obtain ⟨hlt, hk⟩ := Array.getElem?_eq_some_iff.1 h
  show (W.heap.modify b _)[b]? = _
  rw [Array.getElem?_eq_getElem (by rw [Array.size_modify]; exact hlt), Array.getElem_modify_self, hk]
  rfl
theorem TbC.set1 (h : TbC W b c0 c1 c2 c3 c4 c5 c6 c7 c8) (u : Value) : TbC (W.setCell ⟨b, 1, none⟩ u) b c0 u c2 c3 c4 c5 c6 c7 c8 := by
  obtain ⟨hlt, hk⟩ := Array.getElem?_eq_some_iff.1 h
  show (W.heap.modify b _)[b]? = _
  rw [Array.getElem?_eq_getElem (by rw [Array.size_modify]; exact hlt), Array.getElem_modify_self, hk]
  rfl
theorem TbC.set2 (h : TbC W b c0 c1 c2 c3 c4 c5 c6 c7 c8) (u : Value) : TbC (W.setCell ⟨b, 2, none⟩ u) b c0 c1 u c3 c4 c5 c6 c7 c8 := by
  obtain ⟨hlt, hk⟩ := Array.getElem?_eq_some_iff.1 h
  show (W.heap.modify b _)[b]? = _
  rw [Array.getElem?_eq_getElem (by rw [Array.size_modify]; exact hlt), Array.getElem_modify_self, hk]
  rfl
theorem TbC.set3 (h : TbC W b c0 c1 c2 c3 c4 c5 c6 c7 c8) (u : Value) : TbC (W.setCell ⟨b, 3, none⟩ u) b c0 c1 c2 u c4 c5 c6 c7 c8 := by
  obtain ⟨hlt, hk⟩ := Array.getElem?_eq_some_iff.1 h
  show (W.heap.modify b _)[b]? = _
  rw [Array.getElem?_eq_getElem (by rw [Array.size_modify]; exact hlt), Array.getElem_modify_self, hk]
  rfl
theorem TbC.set4 (h : TbC W b c0 c1 c2 c3 c4 c5 c6 c7 c8) (u : Value) : TbC (W.setCell ⟨b, 4, none⟩ u) b c0 c1 c2 c3 u c5 c6 c7 c8 := by
  obtain ⟨hlt, hk⟩ := Array.getElem?_eq_some_iff.1 h
  show (W.heap.modify b _)[b]? = _
  rw [Array.getElem?_eq_getElem (by rw [Array.size_modify]; exact hlt), Array.getElem_modify_self, hk]
  rfl
theorem TbC.set5 (h : TbC W b c0 c1 c2 c3 c4 c5 c6 c7 c8) (u : Value) : TbC (W.setCell ⟨b, 5, none⟩ u) b c0 c1 c2 c3 c4 u c6 c7 c8 := by
  obtain ⟨hlt, hk⟩ := Array.getElem?_eq_some_iff.1 h
  show (W.heap.modify b _)[b]? = _
  rw [Array.getElem?_eq_getElem (by rw [Array.size_modify]; exact hlt), Array.getElem_modify_self, hk]
  rfl
theorem TbC.set6 (h : TbC W b c0 c1 c2 c3 c4 c5 c6 c7 c8) (u : Value) : TbC (W.setCell ⟨b, 6, none⟩ u) b c0 c1 c2 c3 c4 c5 u c7 c8 := by
  obtain ⟨hlt, hk⟩ := Array.getElem?_eq_some_iff.1 h
  show (W.heap.modify b _)[b]? = _
  rw [Array.getElem?_eq_getElem (by rw [Array.size_modify]; exact hlt), Array.getElem_modify_self, hk]
  rfl
theorem TbC.set7 (h : TbC W b c0 c1 c2 c3 c4 c5 c6 c7 c8) (u : Value) : TbC (W.setCell ⟨b, 7, none⟩ u) b c0 c1 c2 c3 c4 c5 c6 u c8 := by
  obtain ⟨hlt, hk⟩ := Array.getElem?_eq_some_iff.1 h
  show (W.heap.modify b _)[b]? = _
  rw [Array.getElem?_eq_getElem (by rw [Array.size_modify]; exact hlt), Array.getElem_modify_self, hk]
  rfl
theorem TbC.set8 (h : TbC W b c0 c1 c2 c3 c4 c5 c6 c7 c8) (u : Value) : TbC (W.setCell ⟨b, 8, none⟩ u) b c0 c1 c2 c3 c4 c5 c6 c7 u := by
  obtain ⟨hlt, hk⟩ := Array.getElem?_eq_some_iff.1 h
  show (W.heap.modify b _)[b]? = _
  rw [Array.getElem?_eq_getElem (by rw [Array.size_modify]; exact hlt), Array.getElem_modify_self, hk]
  rfl
end
/-- a word as a value -/
abbrev U (n : Nat) : Value := .int .u64 n
/-- the words of some bits -/
def wcells (V : Bs) (N : Nat) : List Value := (List.range N).map fun j => U (Gl.word V j)
theorem wcells_len (V : Bs) (N : Nat) : (wcells V N).length = N := by simp [wcells]
theorem wcells_at (V : Bs) {N j : Nat} (h : j < N) : (wcells V N)[j]? = some (U (Gl.word V j)) := by simp [wcells, h]
theorem wcells_succ (V : Bs) (N : Nat) : wcells V (N + 1) = wcells V N ++ [U (Gl.word V N)] := by simp [wcells, List.range_succ]
theorem word_congr {f g : Bs} {j : Nat} (h : ∀ p, p / 64 = j → f p = g p) : Gl.word f j = Gl.word g j := by
  apply Nat.eq_of_testBit_eq
  intro i
  rw [Gl.word_bit, Gl.word_bit]
  by_cases hi : i < 64
  · rw [h (64 * j + i) (by omega)]
  · simp [hi]
theorem word_inj {f g : Bs} {j : Nat} (h : Gl.word f j = Gl.word g j) : ∀ p, p / 64 = j → f p = g p := by
  intro p hp
  have e := congrArg (fun n => n.testBit (p % 64)) h
  simp only [Gl.word_bit, show p % 64 < 64 from Nat.mod_lt _ (by decide), decide_true, Bool.true_and] at e
  rwa [show 64 * j + p % 64 = p by omega] at e
theorem word_full {f : Bs} {j : Nat} (h : ∀ p, p / 64 = j → f p = true) : Gl.word f j = 18446744073709551615 := by
  apply Nat.eq_of_testBit_eq
  intro i
  rw [Gl.word_bit, show 18446744073709551615 = 2 ^ 64 - 1 from rfl, Nat.testBit_two_pow_sub_one]
  by_cases hi : i < 64
  · rw [h (64 * j + i) (by omega)]; simp
  · simp [hi]
theorem word_of (n : Nat) (hn : n < 18446744073709551616) (j : Nat) : ∃ f : Bs, Gl.word f j = n := by
  refine ⟨fun p => n.testBit (p - 64 * j), ?_⟩
  apply Nat.eq_of_testBit_eq
  intro i
  rw [Gl.word_bit, show 64 * j + i - 64 * j = i by omega]
  by_cases hi : i < 64
  · simp [hi]
  · rw [Nat.testBit_lt_two_pow (Nat.lt_of_lt_of_le (show n < 2 ^ 64 by simpa using hn) (Nat.pow_le_pow_right (by decide) (by omega)))]; simp
/-- the bits with one word of others -/
def setw (V : Bs) (j : Nat) (H : Bs) : Bs := fun p => if p / 64 = j then H p else V p
theorem setw_back (V : Bs) (j : Nat) (H : Bs) : setw (setw V j H) j V = V := by
  funext p; unfold setw; split <;> rfl
theorem setw_same {V H : Bs} {j : Nat} (h : Gl.word H j = Gl.word V j) : setw V j H = V := by
  funext p; unfold setw; split
  · exact word_inj h p (by assumption)
  · rfl
theorem word_setw (V : Bs) (j : Nat) (H : Bs) : Gl.word (setw V j H) j = Gl.word H j := word_congr fun p hp => by unfold setw; rw [if_pos hp]
theorem wcells_set (V : Bs) (N j : Nat) (H : Bs) : (wcells V N).set j (U (Gl.word H j)) = wcells (setw V j H) N := by
  apply List.ext_getElem?
  intro i
  rw [List.getElem?_set]
  by_cases h : j = i
  · subst h
    rw [if_pos rfl, wcells_len]
    by_cases hj : j < N
    · rw [if_pos hj, wcells_at _ hj, word_setw]
    · rw [if_neg hj, List.getElem?_eq_none (by rw [wcells_len]; omega)]
  · rw [if_neg h]
    by_cases hi : i < N
    · rw [wcells_at _ hi, wcells_at _ hi, word_congr (f := V) (g := setw V j H) (fun p hp => by unfold setw; rw [if_neg (by omega)])]
    · rw [List.getElem?_eq_none (by rw [wcells_len]; omega), List.getElem?_eq_none (by rw [wcells_len]; omega)]
/-- what was turned: at which line, which word, what it was -/
abbrev Tn := Nat × Nat × Bs
def tcells : List Tn → List Value
  | [] => []
  | e :: l => Z e.1 :: Z e.2.1 :: U (Gl.word e.2.2 e.2.1) :: tcells l
theorem tcells_len (l : List Tn) : (tcells l).length = l.length * 3 := by
  induction l with
  | nil => rfl
  | cons r l ih => simp [tcells, ih]; omega
theorem tcells_app (a b : List Tn) : tcells (a ++ b) = tcells a ++ tcells b := by
  induction a with
  | nil => rfl
  | cons r l ih => simp [tcells, ih]
theorem tcells_take (l : List Tn) (k : Nat) : tcells (l.take k) = (tcells l).take (k * 3) := by
  induction l generalizing k with
  | nil => simp [tcells]
  | cons r l ih =>
    cases k with
    | zero => simp [tcells]
    | succ k => rw [List.take_succ_cons, show (k + 1) * 3 = k * 3 + 1 + 1 + 1 by omega]; simp [tcells, ih]
theorem tcells_at (l : List Tn) : ∀ (j : Nat) e, l[j]? = some e → (tcells l)[j * 3]? = some (Z e.1) ∧ (tcells l)[j * 3 + 1]? = some (Z e.2.1) ∧ (tcells l)[j * 3 + 2]? = some (U (Gl.word e.2.2 e.2.1)) := by
  induction l with
  | nil => intro j r h; simp at h
  | cons x l ih =>
    intro j r h
    cases j with
    | zero => simp at h; subst h; exact ⟨rfl, rfl, rfl⟩
    | succ j =>
      have := ih j r (by simpa using h)
      rw [show (j + 1) * 3 = j * 3 + 1 + 1 + 1 by omega, show j * 3 + 1 + 1 + 1 + 1 = (j * 3 + 1) + 1 + 1 + 1 by omega, show j * 3 + 1 + 1 + 1 + 2 = (j * 3 + 2) + 1 + 1 + 1 by omega]
      simp only [tcells, List.getElem?_cons_succ]
      exact this
theorem tcells_one (t : Tn) : ∀ u ∈ tcells [t], u.oneCell' = true := by
  intro u hu
  simp only [tcells, List.mem_cons, List.not_mem_nil, or_false] at hu
  rcases hu with rfl | rfl | rfl <;> rfl
/-- what the bits were ahead of what was turned -/
def undo : List Tn → Bs → Bs
  | [], V => V
  | e :: l, V => setw (undo l V) e.2.1 e.2.2
theorem undo_app (a b : List Tn) (V : Bs) : undo (a ++ b) V = undo a (undo b V) := by
  induction a with
  | nil => rfl
  | cons r l ih => simp [undo, ih]
/-- a stop: at which line, the words, what they are, how many -/
abbrev Sp := Nat × Value × Bs × Nat
def scells : List Sp → List Value
  | [] => []
  | e :: l => Z e.1 :: e.2.1 :: scells l
theorem scells_len (l : List Sp) : (scells l).length = l.length * 2 := by
  induction l with
  | nil => rfl
  | cons r l ih => simp [scells, ih]; omega
theorem scells_app (a b : List Sp) : scells (a ++ b) = scells a ++ scells b := by
  induction a with
  | nil => rfl
  | cons r l ih => simp [scells, ih]
theorem scells_take (l : List Sp) (k : Nat) : scells (l.take k) = (scells l).take (k * 2) := by
  induction l generalizing k with
  | nil => simp [scells]
  | cons r l ih =>
    cases k with
    | zero => simp [scells]
    | succ k => rw [List.take_succ_cons, show (k + 1) * 2 = k * 2 + 1 + 1 by omega]; simp [scells, ih]
theorem scells_at (l : List Sp) : ∀ (j : Nat) e, l[j]? = some e → (scells l)[j * 2]? = some (Z e.1) ∧ (scells l)[j * 2 + 1]? = some e.2.1 := by
  induction l with
  | nil => intro j r h; simp at h
  | cons x l ih =>
    intro j r h
    cases j with
    | zero => simp at h; subst h; exact ⟨rfl, rfl⟩
    | succ j =>
      have := ih j r (by simpa using h)
      rw [show (j + 1) * 2 = j * 2 + 1 + 1 by omega, show j * 2 + 1 + 1 + 1 = (j * 2 + 1) + 1 + 1 by omega]
      simp only [scells, List.getElem?_cons_succ]
      exact this
theorem scells_one (t : Sp) (h : t.2.1.oneCell' = true) : ∀ u ∈ scells [t], u.oneCell' = true := by
  intro u hu
  simp only [scells, List.mem_cons, List.not_mem_nil, or_false] at hu
  rcases hu with rfl | rfl
  · rfl
  · exact h
/-- a row of one's own lies in a block of its kind -/
theorem own_kind {W : World} {B size n : Nat} {e : TypeId} {v : Value} {xs : List Value} (h : W.ownsRow B e size v n xs) {g : Nat} (hg : v.ownBlock = some g) : B ≤ g ∧ g < W.heap.size ∧ ∃ cur, W.heap[g]? = some (.cells cur e (0, 0)) := by
  rcases h.2 with ⟨rfl, _⟩ | ⟨g', cap, cur, rfl, hb, hh, _⟩
  · cases hg
  · cases hg
    exact ⟨hb, (Array.getElem?_eq_some_iff.1 hh).1, cur, hh⟩
theorem own_ne {W : World} {B B' size size' n n' : Nat} {e e' : TypeId} {v v' : Value} {xs xs' : List Value} (h : W.ownsRow B e size v n xs) (h' : W.ownsRow B' e' size' v' n' xs') (hne : e ≠ e') : v.ownBlock = none ∨ v.ownBlock ≠ v'.ownBlock := by
  cases hv : v.ownBlock with
  | none => exact Or.inl rfl
  | some g =>
    refine Or.inr fun hv' => ?_
    obtain ⟨_, _, c, hc⟩ := own_kind h hv
    obtain ⟨_, _, c', hc'⟩ := own_kind h' hv'.symm
    rw [hc] at hc'
    cases hc'
    exact hne rfl
/-- a row cut behind so many -/
theorem own_cut {W : World} {B size n k : Nat} {e : TypeId} {v : Value} {xs : List Value} (h : W.ownsRow B e size v n xs) (hk : k ≤ n) : ∃ v', (∀ a cap, v = .slice a n cap → v' = .slice a k cap) ∧ v'.ownBlock = v.ownBlock ∧ W.ownsRow B e size v' k (xs.take (k * size)) := by
  obtain ⟨hl, h2⟩ := h
  rcases h2 with ⟨rfl, rfl⟩ | ⟨g, cap, cur, rfl, hb, hh, hn, hm, hs, ht⟩
  · obtain rfl : k = 0 := by omega
    refine ⟨.slice none 0 0, fun a cap e => by cases e; rfl, rfl, ?_⟩
    rw [Nat.zero_mul, List.take_zero]
    exact World.ownsRow_nil _ _ _ _
  · refine ⟨.slice (some ⟨g, 0, none⟩) k cap, fun a c e => by cases e; rfl, rfl, ?_, Or.inr ⟨g, cap, cur, rfl, hb, hh, by omega, hm, hs, ?_⟩⟩
    · rw [List.length_take, hl, Nat.min_eq_left (Nat.mul_le_mul_right _ hk)]
    · rw [← ht, List.take_take, Nat.min_eq_left (Nat.mul_le_mul_right _ hk)]
theorem own_shape {W : World} {B size n : Nat} {e : TypeId} {v : Value} {xs : List Value} (h : W.ownsRow B e size v n xs) : ∃ a cap, v = .slice a n cap ∧ n ≤ cap ∧ (a = none → cap = 0) := by
  rcases h.2 with ⟨rfl, rfl⟩ | ⟨g, cap, cur, rfl, hb, hh, hn, _⟩
  · exact ⟨none, 0, rfl, Nat.le_refl _, fun _ => rfl⟩
  · exact ⟨_, cap, rfl, hn, fun e => by cases e⟩
/-- the table and all its rows -/
structure Tb (B T : Nat) (ah wd mo : Int) (v0 v1 : Value) (at_ : Nat) (vI vT vS : Value) (V : Bs) (N : Nat) (L : List Tn) (S : List Sp) (W : World) : Prop where
  c : TbC W T v0 v1 (Z ah) (Z wd) (Z at_) vI vT (Z mo) vS
  lo : B ≤ T
  ids : W.ownsRow B 93 1 vI N (wcells V N)
  top : ∀ p, 64 * N ≤ p → V p = true
  trn : W.ownsRow B 97 3 vT L.length (tcells L)
  stp : W.ownsRow B 95 2 vS S.length (scells S)
  old : ∀ s ∈ S, W.ownsRow B 93 1 s.2.1 s.2.2.2 (wcells s.2.2.1 s.2.2.2) ∧ (s.2.1.ownBlock = none ∨ s.2.1.ownBlock ≠ vI.ownBlock) ∧ ∀ p, 64 * s.2.2.2 ≤ p → s.2.2.1 p = true
/-- no row of the table's kinds -/
def Far (W : World) (k : Nat) : Prop := ∀ cur e fr, W.heap[k]? = some (.cells cur e fr) → e ≠ 93 ∧ e ≠ 97 ∧ e ≠ 95
/-- but for the table and its rows all lies as it lay -/
structure KpT (B T : Nat) (W W' : World) : Prop where
  os : W'.os = W.os
  tape : W'.tape = W.tape
  output : W'.output = W.output
  size : W.heap.size ≤ W'.heap.size
  block : ∀ k, k < W.heap.size → k ≠ T → (k < B ∨ Far W k) → W'.heap[k]? = W.heap[k]?
section
variable {B T : Nat} {W W' W'' : World}
theorem KpT.of_below (h : Below W.heap.size W W') : KpT B T W W' := ⟨h.os, h.tape, h.output, h.size, fun k hk _ _ => h.block k hk⟩
theorem KpT.refl : KpT B T W W := KpT.of_below (Below.refl _ _)
theorem KpT.trans (h : KpT B T W W') (k : KpT B T W' W'') : KpT B T W W'' :=
  ⟨k.os.trans h.os, k.tape.trans h.tape, k.output.trans h.output, Nat.le_trans h.size k.size, fun i hi hne hf => by
    have e := h.block i hi hne hf
    refine (k.block i (Nat.lt_of_lt_of_le hi h.size) hne (hf.imp id fun f => ?_)).trans e
    intro cur ty fr hh
    exact f cur ty fr (e ▸ hh)⟩
theorem KpT.alloc (h : KpT B T W W') (o : Obj) : KpT B T W (W'.alloc o) := h.trans (KpT.of_below (bel_alloc (Below.refl _ _) o))
theorem KpT.drew (h : KpT B T W W') : KpT B T W W'.drew := ⟨h.os, h.tape, h.output, h.size, h.block⟩
theorem KpT.drewN (h : KpT B T W W') (n : Nat) : KpT B T W (W'.drewN n) := ⟨h.os, h.tape, h.output, h.size, h.block⟩
theorem KpT.setT (h : KpT B T W W') (i : Nat) (u : Value) : KpT B T W (W'.setCell ⟨T, i, none⟩ u) :=
  h.trans ⟨rfl, rfl, rfl, by simp, fun k _ hne _ => heap_setCell_ne _ _ _ _ _ hne⟩
theorem KpT.setNew (h : KpT B T W W') {c : Nat} (i : Nat) (u : Value) (hc : W.heap.size ≤ c) : KpT B T W (W'.setCell ⟨c, i, none⟩ u) :=
  ⟨h.os, h.tape, h.output, by simpa using h.size, fun k hk hne hf => (heap_setCell_ne _ _ _ _ _ (by omega)).trans (h.block k hk hne hf)⟩
theorem kpt_row {e : TypeId} {size n : Nat} {v : Value} {xs : List Value} (ho : W.ownsRow B e size v n xs) (he : e = 93 ∨ e = 97 ∨ e = 95) (hg : W.grownBy W' v.ownBlock) : KpT B T W W' :=
  ⟨hg.os, hg.tape, hg.output, hg.size, fun k hk _ hf => hg.block k hk fun hv => by
    obtain ⟨h1, _, cur, h2⟩ := own_kind ho hv.symm
    rcases hf with hf | hf
    · omega
    · obtain ⟨f1, f2, f3⟩ := hf _ _ _ h2
      rcases he with he | he | he
      · exact f1 he
      · exact f2 he
      · exact f3 he⟩
theorem KpT.below {w : World} (h : Below B w W) (k : KpT B T W W') (hB : B ≤ W.heap.size) (hT : B ≤ T) : Below B w W' :=
  ⟨k.os.trans h.os, k.tape.trans h.tape, k.output.trans h.output, Nat.le_trans h.size k.size, fun i hi => (k.block i (by omega) (by omega) (Or.inl hi)).trans (h.block i hi)⟩
/-- a row of another kind stays -/
theorem KpT.row (k : KpT B T W W') {B' : Nat} {e : TypeId} {size n : Nat} {v : Value} {xs : List Value} (ho : W.ownsRow B' e size v n xs) (he : e ≠ 93 ∧ e ≠ 97 ∧ e ≠ 95) (hT : v.ownBlock ≠ some T) : W'.ownsRow B' e size v n xs := by
  refine ⟨ho.1, ?_⟩
  rcases ho.2 with h | ⟨g, cap, cur, rfl, hb, hh, r⟩
  · exact Or.inl h
  · refine Or.inr ⟨g, cap, cur, rfl, hb, ?_, r⟩
    rw [k.block g (Array.getElem?_eq_some_iff.1 hh).1 (fun e => hT (by simp [Value.ownBlock, e])) (Or.inr fun c t f h => by rw [hh] at h; cases h; exact he)]
    exact hh
variable {ah wd mo : Int} {v0 v1 : Value} {at_ : Nat} {vI vT vS : Value} {V : Bs} {N : Nat} {L : List Tn} {S : List Sp}
theorem Tb.lt (h : Tb B T ah wd mo v0 v1 at_ vI vT vS V N L S W) : T < W.heap.size := h.c.lt
theorem own_notT {e : TypeId} {size n : Nat} {v : Value} {xs : List Value} {c0 c1 c2 c3 c4 c5 c6 c7 c8 : Value} (h : TbC W T c0 c1 c2 c3 c4 c5 c6 c7 c8) {B : Nat} (ho : W.ownsRow B e size v n xs) (he : e ≠ 88) : v.ownBlock ≠ some T := fun hv => by
  obtain ⟨_, _, cur, hc⟩ := own_kind ho hv
  rw [show W.heap[T]? = _ from h] at hc
  cases hc
  exact he rfl
theorem Tb.later (h : Tb B T ah wd mo v0 v1 at_ vI vT vS V N L S W) (hb : Below W.heap.size W W') : Tb B T ah wd mo v0 v1 at_ vI vT vS V N L S W' :=
  ⟨h.c.later hb, h.lo, owns_later h.ids hb, h.top, owns_later h.trn hb, owns_later h.stp hb, fun s hs => ⟨owns_later (h.old s hs).1 hb, (h.old s hs).2⟩⟩
theorem Tb.drew (h : Tb B T ah wd mo v0 v1 at_ vI vT vS V N L S W) : Tb B T ah wd mo v0 v1 at_ vI vT vS V N L S W.drew := h.later (Below.refl _ W).drew
theorem Tb.drewN (h : Tb B T ah wd mo v0 v1 at_ vI vT vS V N L S W) (n : Nat) : Tb B T ah wd mo v0 v1 at_ vI vT vS V N L S (W.drewN n) := h.later (below_drewN (Below.refl _ W) n)
theorem Tb.alloc (h : Tb B T ah wd mo v0 v1 at_ vI vT vS V N L S W) (o : Obj) : Tb B T ah wd mo v0 v1 at_ vI vT vS V N L S (W.alloc o) := h.later (bel_alloc (Below.refl _ _) o)
/-- a store into a block that is none of these -/
theorem Tb.other (h : Tb B T ah wd mo v0 v1 at_ vI vT vS V N L S W) {c i : Nat} {u : Value} (hc : ∀ cur e, W.heap[c]? = some (.cells cur e (0, 0)) → e ≠ 93 ∧ e ≠ 97 ∧ e ≠ 95 ∧ e ≠ 88) : Tb B T ah wd mo v0 v1 at_ vI vT vS V N L S (W.setCell ⟨c, i, none⟩ u) := by
  have hr : ∀ {e : TypeId} {size n : Nat} {v : Value} {xs : List Value}, W.ownsRow B e size v n xs → (e = 93 ∨ e = 97 ∨ e = 95) → (W.setCell ⟨c, i, none⟩ u).ownsRow B e size v n xs := fun ho he =>
    ownsRow_setCell_other ho (a := ⟨c, i, none⟩) (fun hv => by
      obtain ⟨_, _, cur, h2⟩ := own_kind ho hv
      obtain ⟨f1, f2, f3, _⟩ := hc _ _ h2
      rcases he with he | he | he
      · exact f1 he
      · exact f2 he
      · exact f3 he) u
  have hT : T ≠ c := fun e => by
    subst e
    exact (hc _ _ h.c).2.2.2 rfl
  exact ⟨h.c.other hT, h.lo, hr h.ids (Or.inl rfl), h.top, hr h.trn (Or.inr (Or.inl rfl)), hr h.stp (Or.inr (Or.inr rfl)), fun s hs => ⟨hr (h.old s hs).1 (Or.inl rfl), (h.old s hs).2⟩⟩
theorem rowT_keep {e : TypeId} {size n : Nat} {v : Value} {xs : List Value} {c0 c1 c2 c3 c4 c5 c6 c7 c8 : Value} (h : TbC W T c0 c1 c2 c3 c4 c5 c6 c7 c8) {B : Nat} (ho : W.ownsRow B e size v n xs) (he : e ≠ 88) (i : Nat) (u : Value) : (W.setCell ⟨T, i, none⟩ u).ownsRow B e size v n xs :=
  ownsRow_setCell_other ho (a := ⟨T, i, none⟩) (own_notT h ho he) u
/-- all the rows, whatever the table's cells say of them -/
structure RwT (B : Nat) (vI vT vS : Value) (V : Bs) (N : Nat) (L : List Tn) (S : List Sp) (W : World) : Prop where
  ids : W.ownsRow B 93 1 vI N (wcells V N)
  top : ∀ p, 64 * N ≤ p → V p = true
  trn : W.ownsRow B 97 3 vT L.length (tcells L)
  stp : W.ownsRow B 95 2 vS S.length (scells S)
  old : ∀ s ∈ S, W.ownsRow B 93 1 s.2.1 s.2.2.2 (wcells s.2.2.1 s.2.2.2) ∧ (s.2.1.ownBlock = none ∨ s.2.1.ownBlock ≠ vI.ownBlock) ∧ ∀ p, 64 * s.2.2.2 ≤ p → s.2.2.1 p = true
theorem Tb.rw_ (h : Tb B T ah wd mo v0 v1 at_ vI vT vS V N L S W) : RwT B vI vT vS V N L S W := ⟨h.ids, h.top, h.trn, h.stp, h.old⟩
theorem RwT.tb (h : RwT B vI vT vS V N L S W) (hc : TbC W T v0 v1 (Z ah) (Z wd) (Z at_) vI vT (Z mo) vS) (hl : B ≤ T) : Tb B T ah wd mo v0 v1 at_ vI vT vS V N L S W := ⟨hc, hl, h.ids, h.top, h.trn, h.stp, h.old⟩
theorem RwT.setT {c0 c1 c2 c3 c4 c5 c6 c7 c8 : Value} (h : RwT B vI vT vS V N L S W) (hc : TbC W T c0 c1 c2 c3 c4 c5 c6 c7 c8) (i : Nat) (u : Value) : RwT B vI vT vS V N L S (W.setCell ⟨T, i, none⟩ u) :=
  ⟨rowT_keep hc h.ids (by decide) i u, h.top, rowT_keep hc h.trn (by decide) i u, rowT_keep hc h.stp (by decide) i u, fun s hs => ⟨rowT_keep hc (h.old s hs).1 (by decide) i u, (h.old s hs).2⟩⟩
theorem RwT.later (h : RwT B vI vT vS V N L S W) (hb : Below W.heap.size W W') : RwT B vI vT vS V N L S W' :=
  ⟨owns_later h.ids hb, h.top, owns_later h.trn hb, owns_later h.stp hb, fun s hs => ⟨owns_later (h.old s hs).1 hb, (h.old s hs).2⟩⟩
theorem RwT.drew (h : RwT B vI vT vS V N L S W) : RwT B vI vT vS V N L S W.drew := h.later (Below.refl _ W).drew
theorem RwT.drewN (h : RwT B vI vT vS V N L S W) (n : Nat) : RwT B vI vT vS V N L S (W.drewN n) := h.later (below_drewN (Below.refl _ W) n)
theorem RwT.alloc (h : RwT B vI vT vS V N L S W) (o : Obj) : RwT B vI vT vS V N L S (W.alloc o) := h.later (bel_alloc (Below.refl _ _) o)
/-- one word is stored -/
theorem RwT.word {g cap : Nat} (h : RwT B (.slice (some ⟨g, 0, none⟩) N cap) vT vS V N L S W) {j : Nat} (hj : j < N) (H : Bs) : RwT B (.slice (some ⟨g, 0, none⟩) N cap) vT vS (setw V j H) N L S (W.setCell ⟨g, j, none⟩ (U (Gl.word H j))) ∧ W.grownBy (W.setCell ⟨g, j, none⟩ (U (Gl.word H j))) (some g) := by
  obtain ⟨h1, h2⟩ := h.ids.stored j (U (Gl.word H j))
  rw [wcells_set] at h1
  have ne1 := own_ne h.trn h.ids (by decide)
  have ne2 := own_ne h.stp h.ids (by decide)
  exact ⟨⟨h1, fun p hp => by unfold setw; rw [if_neg (by omega)]; exact h.top p hp, h.trn.kept h2 ne1, h.stp.kept h2 ne2, fun s hs => ⟨(h.old s hs).1.kept h2 (h.old s hs).2.1, (h.old s hs).2⟩⟩, h2⟩
/-- something is put behind what was turned -/
theorem RwT.turn (h : RwT B vI vT vS V N L S W) {vT' : Value} {t : Tn} (ho : W'.ownsRow B 97 3 vT' (L ++ [t]).length (tcells (L ++ [t]))) (hg : W.grownBy W' vT.ownBlock) : RwT B vI vT' vS V N (L ++ [t]) S W' :=
  ⟨h.ids.kept hg (own_ne h.ids h.trn (by decide)), h.top, ho, h.stp.kept hg (own_ne h.stp h.trn (by decide)), fun s hs => ⟨(h.old s hs).1.kept hg (own_ne (h.old s hs).1 h.trn (by decide)), (h.old s hs).2⟩⟩
/-- a word more -/
theorem RwT.grow (h : RwT B vI vT vS V N L S W) {vI' : Value} (ho : W'.ownsRow B 93 1 vI' (N + 1) (wcells V (N + 1))) (hg : W.grownBy W' vI.ownBlock) (hn : vI'.ownBlock = vI.ownBlock ∨ vI'.ownBlock = some W.heap.size) : RwT B vI' vT vS V (N + 1) L S W' := by
  refine ⟨ho, fun p hp => h.top p (by omega), h.trn.kept hg (own_ne h.trn h.ids (by decide)), h.stp.kept hg (own_ne h.stp h.ids (by decide)), fun s hs => ⟨(h.old s hs).1.kept hg (h.old s hs).2.1, ?_, (h.old s hs).2.2⟩⟩
  rcases hn with hn | hn
  · rw [hn]; exact (h.old s hs).2.1
  · cases hv : s.2.1.ownBlock with
    | none => exact Or.inl rfl
    | some q =>
      refine Or.inr fun e => ?_
      rw [hn] at e
      cases e
      have := (own_kind (h.old s hs).1 hv).2.1
      omega
/-- a stop more -/
theorem RwT.stop (h : RwT B vI vT vS V N L S W) {vS' : Value} {t : Sp} (ho : W'.ownsRow B 95 2 vS' (S ++ [t]).length (scells (S ++ [t]))) (hg : W.grownBy W' vS.ownBlock) (ht : W.ownsRow B 93 1 t.2.1 t.2.2.2 (wcells t.2.2.1 t.2.2.2) ∧ (t.2.1.ownBlock = none ∨ t.2.1.ownBlock ≠ vI.ownBlock) ∧ ∀ p, 64 * t.2.2.2 ≤ p → t.2.2.1 p = true) : RwT B vI vT vS' V N L (S ++ [t]) W' :=
  ⟨h.ids.kept hg (own_ne h.ids h.stp (by decide)), h.top, h.trn.kept hg (own_ne h.trn h.stp (by decide)), ho, fun s hs => by
    rcases List.mem_append.1 hs with hs | hs
    · exact ⟨(h.old s hs).1.kept hg (own_ne (h.old s hs).1 h.stp (by decide)), (h.old s hs).2⟩
    · obtain rfl := List.mem_singleton.1 hs
      exact ⟨ht.1.kept hg (own_ne ht.1 h.stp (by decide)), ht.2⟩⟩
/-- what was turned is cut -/
theorem RwT.cutT (h : RwT B vI vT vS V N L S W) {k : Nat} (hk : k ≤ L.length) : ∃ vT', (∀ a cap, vT = .slice a L.length cap → vT' = .slice a k cap) ∧ RwT B vI vT' vS V N (L.take k) S W := by
  obtain ⟨v', h1, _, h3⟩ := own_cut h.trn hk
  rw [← tcells_take] at h3
  exact ⟨v', h1, h.ids, h.top, by rw [List.length_take, Nat.min_eq_left hk]; exact h3, h.stp, h.old⟩
/-- the stops are cut -/
theorem RwT.cutS (h : RwT B vI vT vS V N L S W) {k : Nat} (hk : k ≤ S.length) : ∃ vS', (∀ a cap, vS = .slice a S.length cap → vS' = .slice a k cap) ∧ RwT B vI vT vS' V N L (S.take k) W := by
  obtain ⟨v', h1, _, h3⟩ := own_cut h.stp hk
  rw [← scells_take] at h3
  exact ⟨v', h1, h.ids, h.top, h.trn, by rw [List.length_take, Nat.min_eq_left hk]; exact h3, fun s hs => h.old s (List.mem_of_mem_take hs)⟩
/-- no words are left -/
theorem RwT.cutI (h : RwT B vI vT vS V N L S W) {V' : Bs} (hV : ∀ p, V' p = true) : ∃ vI', (∀ a cap, vI = .slice a N cap → vI' = .slice a 0 cap) ∧ vI'.ownBlock = vI.ownBlock ∧ RwT B vI' vT vS V' 0 L S W := by
  obtain ⟨v', h1, h2, h3⟩ := own_cut h.ids (Nat.zero_le N)
  exact ⟨v', h1, h2, by simpa [wcells] using h3, fun p _ => hV p, h.trn, h.stp, fun s hs => ⟨(h.old s hs).1, by rw [h2]; exact (h.old s hs).2.1, (h.old s hs).2.2⟩⟩
end

end Go.Proofs.Ytmbalnjobcgpkaa

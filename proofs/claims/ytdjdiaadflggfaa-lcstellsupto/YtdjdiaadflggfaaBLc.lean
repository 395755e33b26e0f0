
/-
  The bits that the program reckons with tell the longest common row of the rests, where so many changes are enough; conditions: that they are.
-/
import Derived.Test.YtdjdiaadflggfaaBKs
import Derived.Test.YtdjdiaadflggfaaHPlain
namespace Go.Proofs.Ytdjdiaadflggfaa
open Go.RowKit Go.Proofs.Ytdjdiaadflggfaa.Ln Go.Proofs.Ytdjdiaadflggfaa.Ol

/-- where the rows have the same line, told from their ends -/
def mtL (xs ys : List Tx) (i k : Nat) : Bool := decide (i < xs.length ∧ k < ys.length ∧ xs[xs.length - 1 - i]? = ys[ys.length - 1 - k]?)
def nearL (n m wd : Nat) (i k : Nat) : Bool := decide (loW k ((n : Int) - m) wd ≤ ((i / 64 : Nat) : Int) ∧ ((i / 64 : Nat) : Int) < hiW k ((n : Int) - m) wd)
/-- the bits at a rest -/
def DL (xs ys : List Tx) (wd at_ : Nat) : Bs := idl (bnd (mtL xs ys) (nearL xs.length ys.length wd)) (ys.length - at_)
theorem dd_lc (xs ys : List Tx) : ∀ i k, i ≤ xs.length → k ≤ ys.length → dd (mtL xs ys) i k = lc (xs.drop (xs.length - i)) (ys.drop (ys.length - k)) := by
  intro i
  induction i with
  | zero => intro k _ _; rw [Nat.sub_zero, List.drop_length, lc_nil, dd_zero]
  | succ i ih =>
    intro k
    induction k with
    | zero => intro _ _; rw [Nat.sub_zero, List.drop_length, lc_nilr, dd_zeror]
    | succ k ihk =>
      intro hi hk
      have e1 : xs.length - (i + 1) + 1 = xs.length - i := by omega
      have e2 : ys.length - (k + 1) + 1 = ys.length - k := by omega
      have a1 := ih k (by omega) (by omega)
      have a2 := ih (k + 1) (by omega) hk
      have a3 := ihk hi (by omega)
      have h1 : xs.length - (i + 1) < xs.length := by omega
      have h2 : ys.length - (k + 1) < ys.length := by omega
      rw [List.drop_eq_getElem_cons h1, e1] at a3
      rw [List.drop_eq_getElem_cons h2, e2] at a2
      rw [dd_succ, List.drop_eq_getElem_cons h1, List.drop_eq_getElem_cons h2, e1, e2, a1, a2, a3]
      have g1 : xs[xs.length - 1 - i]? = some xs[xs.length - (i + 1)] := by rw [show xs.length - 1 - i = xs.length - (i + 1) by omega]; exact List.getElem?_eq_getElem h1
      have g2 : ys[ys.length - 1 - k]? = some ys[ys.length - (k + 1)] := by rw [show ys.length - 1 - k = ys.length - (k + 1) by omega]; exact List.getElem?_eq_getElem h2
      have hm : mtL xs ys i k = decide (xs[xs.length - (i + 1)] = ys[ys.length - (k + 1)]) := by
        unfold mtL
        rw [g1, g2, Bool.eq_iff_iff]
        simp only [decide_eq_true_eq, Option.some.injEq]
        exact ⟨fun h => h.2.2, fun h => ⟨by omega, by omega, h⟩⟩
      rw [hm]
      by_cases e : xs[xs.length - (i + 1)] = ys[ys.length - (k + 1)]
      · rw [if_pos (by simpa using e), e, lc_head]
      · rw [if_neg (by simpa using e), lc_cons, if_neg e]
        omega
theorem near_band {xs ys : List Tx} {wd : Nat} : ∀ i k, i < xs.length → k < ys.length → mtL xs ys i k = true → (xs.length - ys.length : Int) - (i - k) - (i - k) ≤ wd → (i - k : Int) - (xs.length - ys.length) + (i - k) ≤ wd → nearL xs.length ys.length wd i k = true := by
  intro i k _ _ _ h1 h2
  unfold nearL loW hiW
  rw [decide_eq_true_eq]
  generalize (xs.length : Int) = n at h1 h2 ⊢
  generalize (ys.length : Int) = m at h1 h2 ⊢
  obtain ⟨lo, hlo⟩ : ∃ z, (k : Int) + ((n - m) - wd) / 2 = z := ⟨_, rfl⟩
  obtain ⟨hi, hhi⟩ : ∃ z, (k : Int) + ((n - m) + wd) / 2 = z := ⟨_, rfl⟩
  rw [hlo, hhi]
  have l1 : lo ≤ i := by omega
  have l2 : (i : Int) ≤ hi := by omega
  constructor
  · by_cases hz : 0 ≤ lo
    · rw [Int.tdiv_eq_ediv_of_nonneg hz]; omega
    · have : lo.tdiv 64 ≤ 0 := by
        have h4 : lo.tdiv 64 = -((-lo).tdiv 64) := by rw [Int.neg_tdiv]; omega
        rw [h4, Int.tdiv_eq_ediv_of_nonneg (by omega)]
        omega
      omega
  · rw [Int.tdiv_eq_ediv_of_nonneg (by omega)]; omega
theorem DL_ok {xs ys : List Tx} {wd i k : Nat} (hi : i ≤ xs.length) (hk : k ≤ ys.length) (hc : Cst (mtL xs ys) xs.length ys.length wd i k) : dd (bnd (mtL xs ys) (nearL xs.length ys.length wd)) i k = dd (mtL xs ys) i k :=
  bnd_same near_band (i + k) i k (Nat.le_refl _) hi hk hc
/-- how many bits are not set -/
theorem dd_flat {mt : Nat → Nat → Bool} {k q : Nat} (h : ∀ p, q ≤ p → idl mt k p = true) : ∀ p, q ≤ p → dd mt p k = dd mt q k := by
  intro p
  induction p with
  | zero => intro hp; rw [Nat.le_zero.1 hp]
  | succ p ih =>
    intro hp
    by_cases e : q = p + 1
    · rw [e]
    · have h1 := h p (by omega)
      unfold idl at h1
      rw [decide_eq_true_eq] at h1
      rw [h1, ih (by omega)]
theorem bnd_top {xs ys : List Tx} {near : Nat → Nat → Bool} : ∀ i k, xs.length ≤ i → bnd (mtL xs ys) near i k = false := by
  intro i k h
  unfold bnd mtL
  rw [Bool.and_eq_false_iff]
  exact Or.inl (decide_eq_false (by omega))
theorem long_dd {xs ys : List Tx} {wd N : Nat} (h : ∀ p, 64 * N ≤ p → DL xs ys wd 0 p = true) : cnb (fun i => !DL xs ys wd 0 i) (64 * N) = dd (bnd (mtL xs ys) (nearL xs.length ys.length wd)) xs.length ys.length := by
  unfold DL at h ⊢
  rw [Nat.sub_zero] at h ⊢
  rw [cnb_dd]
  by_cases e : xs.length ≤ 64 * N
  · exact idl_top bnd_top _ _ e
  · exact (dd_flat h _ (by omega)).symm
theorem long_le (xs ys : List Tx) (near : Nat → Nat → Bool) : dd (bnd (mtL xs ys) near) xs.length ys.length ≤ xs.length ∧ dd (bnd (mtL xs ys) near) xs.length ys.length ≤ ys.length := dd_le _ _ _
theorem dd_all (xs ys : List Tx) : dd (mtL xs ys) xs.length ys.length = lc xs ys := by
  rw [dd_lc xs ys _ _ (Nat.le_refl _) (Nat.le_refl _), Nat.sub_self, Nat.sub_self, List.drop_zero, List.drop_zero]
/-- where so many changes are enough -/
theorem cst_start {xs ys : List Tx} {wd : Nat} (h : (xs.length : Int) + ys.length - 2 * dd (bnd (mtL xs ys) (nearL xs.length ys.length wd)) xs.length ys.length ≤ wd) : Cst (mtL xs ys) xs.length ys.length wd xs.length ys.length := by
  have := bnd_le (mtL xs ys) (nearL xs.length ys.length wd) xs.length ys.length
  unfold Cst
  omega
theorem long_lc {xs ys : List Tx} {wd : Nat} (h : (xs.length : Int) + ys.length - 2 * dd (bnd (mtL xs ys) (nearL xs.length ys.length wd)) xs.length ys.length ≤ wd) : dd (bnd (mtL xs ys) (nearL xs.length ys.length wd)) xs.length ys.length = lc xs ys := by
  rw [DL_ok (Nat.le_refl _) (Nat.le_refl _) (cst_start h), dd_all]
/-- a line is idle -/
theorem idle_lc {xs ys : List Tx} {wd i k : Nat} (hi : i + 1 ≤ xs.length) (hk : k ≤ ys.length) (hc : Cst (mtL xs ys) xs.length ys.length wd (i + 1) k) : idl (bnd (mtL xs ys) (nearL xs.length ys.length wd)) k i = decide (dd (mtL xs ys) (i + 1) k = dd (mtL xs ys) i k) := by
  have e1 := DL_ok hi hk hc
  have l1 := bnd_le (mtL xs ys) (nearL xs.length ys.length wd) i k
  obtain ⟨l2, l3, _⟩ := dd_step (mtL xs ys) (i + k) i k (Nat.le_refl _)
  unfold idl
  rw [Bool.eq_iff_iff, decide_eq_true_eq, decide_eq_true_eq, e1]
  constructor
  · intro h; omega
  · intro h
    rw [DL_ok (by omega) hk (by unfold Cst at hc ⊢; omega), h]
theorem cst_del {xs ys : List Tx} {wd i k : Nat} (hc : Cst (mtL xs ys) xs.length ys.length wd (i + 1) k) (h : dd (mtL xs ys) (i + 1) k = dd (mtL xs ys) i k) : Cst (mtL xs ys) xs.length ys.length wd i k := by unfold Cst at hc ⊢; omega
theorem cst_ins {xs ys : List Tx} {wd i k : Nat} (hc : Cst (mtL xs ys) xs.length ys.length wd i (k + 1)) (h : dd (mtL xs ys) i (k + 1) = dd (mtL xs ys) i k) : Cst (mtL xs ys) xs.length ys.length wd i k := by unfold Cst at hc ⊢; omega
theorem cst_keep {xs ys : List Tx} {wd i k : Nat} (hc : Cst (mtL xs ys) xs.length ys.length wd (i + 1) (k + 1)) (h : dd (mtL xs ys) (i + 1) (k + 1) = dd (mtL xs ys) i k + 1) : Cst (mtL xs ys) xs.length ys.length wd i k := by unfold Cst at hc ⊢; omega
/-- the marks of a line of the other row -/
theorem marks_mt {xs ys : List Tx} {d : List Tx} {wsf : Nat → List Nat} {gf : Nat → Bs} (hp : KP xs xs.length xs.length d wsf gf) {j : Nat} {y : Tx} (hy : ys[j]? = some y) (p : Nat) : gf (sidx d y) p = mtL xs ys p (ys.length - 1 - j) := by
  obtain ⟨hj, _⟩ := List.getElem?_eq_some_iff.1 hy
  have e : ys[ys.length - 1 - (ys.length - 1 - j)]? = some y := by rw [show ys.length - 1 - (ys.length - 1 - j) = j by omega]; exact hy
  unfold mtL
  rw [e]
  by_cases hd : y ∈ d
  · obtain ⟨s, h1, h2⟩ := sidx_at hd
    rw [h1, hp.gs s (List.getElem?_eq_some_iff.1 h2).1, h2, Bool.eq_iff_iff, decide_eq_true_eq, decide_eq_true_eq]
    exact ⟨fun h => ⟨h.1, by omega, h.2⟩, fun h => ⟨h.1, h.2.2⟩⟩
  · rw [show sidx d y = 0 from if_neg hd, hp.g0]
    symm
    rw [decide_eq_false_iff_not]
    rintro ⟨h1, _, h3⟩
    exact hd (hp.cover p y h1 h3)

end Go.Proofs.Ytdjdiaadflggfaa

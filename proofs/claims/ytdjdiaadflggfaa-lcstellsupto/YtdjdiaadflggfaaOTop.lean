
/-
  What the program's rightAlone, Right, Olds, News and Changes answer at any steps that lie in memory; conditions: the lists' and texts' lengths.
-/
import Derived.Test.YtdjdiaadflggfaaOSide
namespace Go.Proofs.Ytdjdiaadflggfaa
open Go.RowKit Go.Proofs.Ytdjdiaadflggfaa.Ln Go.Proofs.Ytdjdiaadflggfaa.Ol

/-- a step's own block -/
abbrev opO (x1 x2 : Int) (x3 : Tx) : Obj := .cells #[.int .i64 x1, .int .i64 x2, .string ⟨x3.toArray⟩] 31

theorem right_eq (xs : List Oq) : right xs = (xs.all alone && (sideB 3 xs && sideB 4 xs)) := by
  unfold right sideB
  cases xs.all alone <;> cases (rsl 3 xs).isSome <;> cases (rsl 4 xs).isSome <;> simp
theorem not_alone {xs : List Oq} {k : Nat} {x : Oq} (h : xs[k]? = some x) (ha : alone x = false) : right xs = false := by
  rw [right_eq]
  have : xs.all alone = false := by
    rw [Bool.eq_false_iff]
    intro e
    rw [List.all_eq_true] at e
    have := e x (List.mem_of_getElem? h)
    rw [ha] at this; cases this
  rw [this]; rfl
theorem all_snoc {xs : List Oq} {k : Nat} {x : Oq} (h : xs[k]? = some x) (h1 : (xs.take k).all alone = true) (h2 : alone x = true) : (xs.take (k + 1)).all alone = true := by
  rw [take_snoc h, List.all_append, h1]; simp [h2]

theorem chs_take (xs : List Oq) (k : Nat) : chs (xs.take k) ≤ k := by
  unfold chs
  have := List.length_filter_le chg (xs.take k)
  rw [List.length_take] at this
  omega
theorem chs_all (xs : List Oq) : chs xs ≤ xs.length := List.length_filter_le chg xs
theorem chs_on {xs : List Oq} {k : Nat} {x : Oq} (h : xs[k]? = some x) (hc : chg x = true) : chs (xs.take (k + 1)) = chs (xs.take k) + 1 := by
  rw [take_snoc h, chs_app]; simp [chs, hc]
theorem chs_off {xs : List Oq} {k : Nat} {x : Oq} (h : xs[k]? = some x) (hc : chg x = false) : chs (xs.take (k + 1)) = chs (xs.take k) := by
  rw [take_snoc h, chs_app]; simp [chs, hc]

end Go.Proofs.Ytdjdiaadflggfaa


/-
  What the document's own Right answers at any steps that lie in memory; conditions: the list's and the texts' lengths.
-/
import Derived.Test.YtdjdiaadflggfaaORef
namespace Go.Proofs.Ytdjdiaadflggfaa
open Go.RowKit Go.Proofs.Ytdjdiaadflggfaa.Ln Go.Proofs.Ytdjdiaadflggfaa.Ol

theorem rsl_take {own : Int} {xs : List Oq} {k : Nat} {x : Oq} (h : xs[k]? = some x) : rsl own (xs.take (k + 1)) = rs own (rsl own (xs.take k)) x := by
  rw [take_snoc h, rsl_snoc]
theorem broken {own : Int} {xs : List Oq} {k : Nat} {x : Oq} (h : xs[k]? = some x) (he : rsl own (xs.take k) = some true) (ho : on own x = true) : rsl own xs = none := by
  have e := cut_at h
  unfold rsl at he ⊢
  conv => lhs; rw [e]
  rw [List.foldl_append, he, List.foldl_cons]
  have : rs own (some true) x = none := by simp [rs, ho]
  rw [this, rs_none]
theorem broken3 {xs : List Oq} {k : Nat} {x : Oq} (h : xs[k]? = some x) (he : rsl 3 (xs.take k) = some true) (ho : on 3 x = true) : right xs = false := by
  rw [right_eq, sideB, broken h he ho]; simp
theorem broken4 {xs : List Oq} {k : Nat} {x : Oq} (h : xs[k]? = some x) (he : rsl 4 (xs.take k) = some true) (ho : on 4 x = true) : right xs = false := by
  rw [right_eq, sideB, sideB, broken h he ho]; simp
/-- how the document's reader of steps stands -/
def RSt (xs : List Oq) (k : Nat) (oe ne : Bool) : Prop := (xs.take k).all alone = true ∧ rsl 3 (xs.take k) = some oe ∧ rsl 4 (xs.take k) = some ne
theorem RSt.step {xs : List Oq} {k : Nat} {oe ne oe' ne' : Bool} {x : Oq} (h : RSt xs k oe ne) (hx : xs[k]? = some x) (ha : alone x = true) (h3 : rs 3 (some oe) x = some oe') (h4 : rs 4 (some ne) x = some ne') : RSt xs (k + 1) oe' ne' :=
  ⟨all_snoc hx h.1 ha, by rw [rsl_take hx, h.2.1, h3], by rw [rsl_take hx, h.2.2, h4]⟩

end Go.Proofs.Ytdjdiaadflggfaa

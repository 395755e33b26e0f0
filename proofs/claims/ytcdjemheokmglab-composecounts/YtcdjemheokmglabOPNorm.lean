
/-
  What the document's own norm and Norm answer at any steps that lie in memory; conditions: the list's and the texts' lengths, and for norm that each step is right but for how large its number is, and that the old side is not too long.
-/
import Derived.Test.YtcdjemheokmglabONorm
import Derived.Test.YtcdjemheokmglabOPRight
namespace Go.Proofs.Ytcdjemheokmglab
open Go.RowKit Go.Proofs.Ytcdjemheokmglab.Ln Go.Proofs.Ytcdjemheokmglab.Ol

/-- the second row is given up -/
theorem NK.none {w : World} {A C : List Oq} {av cv : Value} {W : World} (h : NK w A C av cv W) : NK w A [] av (.slice none 0 0) W :=
  ⟨h.bel, h.ao, ⟨rfl, Or.inl ⟨rfl, rfl⟩⟩, fun k e e2 => by cases e2⟩

theorem last_nums (m : Nat) (h : m < 4398046511104) : wrap64 ((m : Int) + 1 - 1) = m ∧ (m : Int) < (m : Int) + 1 ∧ (0 : Int) ≤ m ∧ wrap64 (m : Int) = m ∧ (0 : Int) < (m : Int) + 1 ∧ IntKind.i64.wrap ((m : Int) + 1 - 1) = m ∧ IntKind.i64.wrap (m : Int) = m := by
  rw [IntKind.wrap_i64, IntKind.wrap_i64]; unfold wrap64; omega

end Go.Proofs.Ytcdjemheokmglab


/-
  What the document's own Flip answers at any steps that lie in memory; conditions: the list's and the texts' lengths.
-/
import Derived.Test.YtbmnflldjkcgnabOPNorm
import Derived.Test.YtbmnflldjkcgnabADoneOpen
import Derived.Test.YtbmnflldjkcgnabFPlain
namespace Go.Proofs.Ytbmnflldjkcgnab
open Go.RowKit Go.Proofs.Ytbmnflldjkcgnab.Ln Go.Proofs.Ytbmnflldjkcgnab.Ol

theorem fit_flp {l : List Oq} (h : Fit l) : Fit (flp l) := by
  intro x hx
  obtain ⟨y, hy, rfl⟩ := List.mem_map.1 hx
  exact h y hy

end Go.Proofs.Ytbmnflldjkcgnab


/-
  What the document's own old, fresh, plus, Olds, News, Changes and Right answer at any steps that lie in memory; conditions: the lists' and texts' lengths.
-/
import Derived.Test.YtdjdiaadflggfaaOTop
namespace Go.Proofs.Ytdjdiaadflggfaa
open Go.RowKit Go.Proofs.Ytdjdiaadflggfaa.Ln Go.Proofs.Ytdjdiaadflggfaa.Ol

/-- what fresh leaves -/
def freshW (x1 x2 : Int) (x3 : Tx) (w : World) : World := if x1 = 3 ∨ x1 = 4 then w.alloc (opO x1 x2 x3) else (w.alloc (opO x1 x2 x3)).alloc (opO x1 x2 x3)
theorem freshW_bel (x1 x2 : Int) (x3 : Tx) {a w : World} (h : Below a.heap.size a w) : Below a.heap.size a (freshW x1 x2 x3 w) := by
  unfold freshW; split
  · exact bel_alloc h _
  · exact bel_alloc (bel_alloc h _) _
end Go.Proofs.Ytdjdiaadflggfaa

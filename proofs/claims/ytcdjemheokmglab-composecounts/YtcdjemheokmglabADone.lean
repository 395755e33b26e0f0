
/-
  What the program's apply.taken and apply.done answer at any steps and lines that lie in memory: how many lines a step is about, and what comes of lines by steps; conditions: the lists' and texts' lengths.
-/
import Derived.Test.YtcdjemheokmglabLRow
import Derived.Test.YtcdjemheokmglabADoneOpen
import Derived.Test.YtcdjemheokmglabAPlain
namespace Go.Proofs.Ytcdjemheokmglab
open Go.RowKit Go.Proofs.Ytcdjemheokmglab.Ln Go.Proofs.Ytcdjemheokmglab.Ol

/-- how many lines a step is about, and whether they are there -/
def tkn (x : Oq) (ls : List Tx) : Int × Bool := if x.1 = 1 then (x.2.1, decide (x.2.1 ≤ ls.length)) else (1, decide (ls[0]? = some x.2.2))

/-- where the doing stands -/
structure DK (w : World) (old : List Tx) (l : List Oq) (q u : Value) (out : List Tx) (p : Nat) (W : World) : Prop where
  st : dsl old l = some (out, p)
  left : RowAt w u (old.drop p)
  own : W.ownsRow w.heap.size 9 1 q out.length (out.map S)
  bel : Below w.heap.size w W
/-- an answer: what came, and whether it could be done -/
def Ans (w : World) (r : Option (List Tx)) (e : Ending) (w' : World) : Prop := ∃ q, e = .returned (.tuple #[q, .bool r.isSome]) ∧ w'.ownsRow w.heap.size 9 1 q (r.getD []).length ((r.getD []).map S) ∧ Below w.heap.size w w'
theorem Ans.none {w w' : World} {r : Option (List Tx)} (h : r = none) (hb : Below w.heap.size w w') : Ans w r (.returned (.tuple #[.slice none 0 0, .bool false])) w' := by
  subst h
  exact ⟨_, rfl, World.ownsRow_nil _ _ _ _, hb⟩
end Go.Proofs.Ytcdjemheokmglab

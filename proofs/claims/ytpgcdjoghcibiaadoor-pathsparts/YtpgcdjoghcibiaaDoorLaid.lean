/-
  What the rows' list of the library's variables gives the walks, and a world that meets the list: the tables lie as the list says, every other variable as at the start; no condition.
-/
import Derived.Test.YtpgcdjoghcibiaaDoorRows
import Derived.Test.YtpgcdjoghcibiaaDoorNames
import Derived.ProofKit
import Derived.OpenShut
import Derived.Deep.DeepHandedRow
import Derived.Lib.LaidTab
import Derived.Stop.LaidErr
import Derived.LaidByTextLater
namespace Go.Proofs.YtpgcdjoghcibiaaDoor
open Go.ChangeShapes Go.WideShapes Go.ChangeAt Go.RowKit

theorem own : ownKnob Tryd.prog.godebug = none := by kernel_rfl

/-- the list, one for all four rows -/
def theList : List (String × DataW Unit) := Rows.pathsTellRow.laid

theorem env_of {W : World} (_ : laidMetH Tryd.prog theList W) (hS : W.ShapedOpen Tryd.prog) : Env W := ⟨Tryd.laysM145.s1_3 W hS⟩

theorem wf_bounds {n : Int} (h : (Lit.int .i64 n).wf = true) : -9223372036854775808 ≤ n ∧ n ≤ 9223372036854775807 := by
  simp [Lit.wf, IntKind.min, IntKind.max, IntKind.signed, IntKind.bits] at h
  omega

/-- the cells of plain data, three deep -/
def cells1 : DataW Unit → List Value
  | .lit (.int k z) => [.int k z]
  | _ => []
def cells2 : DataW Unit → List Value
  | .agg l => l.flatMap cells1
  | d => cells1 d
def cells3 : DataW Unit → List Value
  | .agg l => l.flatMap cells2
  | d => cells1 d
def lay (d : DataW Unit) : Obj → Obj
  | .cells _ t frozen => .cells (cells3 d).toArray t frozen
  | o => o

/-- A world for the witness: the settled one, the two tables holding what the list says. -/
noncomputable def laidWorld (os : Os) : World :=
  { World.holding Tryd.prog os ⟨#[], #[], []⟩ with heap := ((World.holding Tryd.prog os ⟨#[], #[], []⟩).heap.modify 1 (lay Rows.laid_unicode_utf8_first)).modify 2 (lay Rows.laid_unicode_utf8_acceptRanges) }

end Go.Proofs.YtpgcdjoghcibiaaDoor

/-
  A byte that is handed in is a byte; no condition.
-/
import Derived.Test.YthjhihpbilaifaaRows
import Derived.OpenShut
namespace Go.Proofs.Ythjhihpbilaifaa
open Go.RowKit

theorem byte_of {a : Int} (h : (Lit.int .u8 a).wf = true) : ∃ c : UInt8, a = (c.toNat : Int) := by
  have hb := bounds_u8 h
  refine ⟨UInt8.ofNat a.toNat, ?_⟩
  rw [UInt8.toNat_ofNat']
  omega

end Go.Proofs.Ythjhihpbilaifaa

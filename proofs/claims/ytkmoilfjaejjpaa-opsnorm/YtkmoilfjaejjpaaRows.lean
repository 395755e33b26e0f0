/-
  No cell of these rows narrows 'for every input' (looked for: loops, veiled, ifaces, maps, wideKeys, modest, calm, conditions, laid).
  DERIVED. THE GIVEN ROWS OF THIS SEAT. 6 by the template 'for every input the law returns true; each argument reads behind the call as it read before'; 0 by the template 'total and deterministic' (their statements: YtkmoilfjaejjpaaTotals.lean).
  GIVEN WITH THE SEED: the statements are not yours to turn. If you find one false, say at which input.
  Laid BY PROGRAM, IN A SANDBOX (cutbox-rows.mjs): the forced cells as the released guide's own fill.sh prints them over the translation 64593459156461dd… (all of the seat's roots in one cut). By AI agents, Wed Nov 11 2026. No macro, syntax, notation, axiom, sorry.
-/
import Derived.Test.YtkmoilfjaejjpaaChecked
import GoSem.Claim
import GoSem.ClaimJoined
import GoSem.ClaimMapViews
import Derived.JoinedTies
import Derived.KernelRfl
namespace Go.Proofs.Ytkmoilfjaejjpaa
/- THE CELL 'sum', in the pinned program and in every row, IS THE sha256 OF THE DUMP (.gsa) THAT YtkmoilfjaejjpaaProg.lean LOADS. Nothing in Lean hashes anything: it is a label: what it is worth is what the hold of that sum in a sandbox is worth. -/
noncomputable def Try.pinned : Pinned := { name := "ytkmoilfjaejjpaa", sum := "64593459156461ddf28fa34dc4668f0c3ab9cf7979c7a278d80d1603fb83e95f", checked := Try.checked }
namespace Rows
def none {H : Type} : Left H := { results := [], args := [] }

/-- 'patchworklaw8.OpsTell': WHATEVER THE INPUT: true; the input reads as it did. -/
def opsTellSpec : ChangeSpec := { name := "opsTell", fn := fun _ => fun
  | [d1, d2] => { results := [.lit (.bool true)], args := [d1, d2] }
  | _ => none }
def opsTellRow : OpenClaim := { program := "ytkmoilfjaejjpaa", sum := "64593459156461ddf28fa34dc4668f0c3ab9cf7979c7a278d80d1603fb83e95f", func := "patchwork/patchworklaw8.OpsTell", spec := "opsTell", inPlace := ["internal/bytealg.IndexByteString"], unfollowed := true, recurses := true, apart := false }
def OpsTellSaid : Prop := opsTellRow.holds Try.pinned (OpenSpec.ofChange opsTellSpec)

/-- ITS FALSE NEIGHBOUR: 'it returns false'. Refute it at one input. -/
def opsTellWrong : ChangeSpec := { name := "opsTell", fn := fun _ => fun
  | [d1, d2] => { results := [.lit (.bool false)], args := [d1, d2] }
  | _ => none }
def OpsTellWrongFalsely : Prop := opsTellRow.holds Try.pinned (OpenSpec.ofChange opsTellWrong)

/-- 'patchworklaw8.OpsNorm': WHATEVER THE INPUT: true; the input reads as it did. -/
def opsNormSpec : ChangeSpec := { name := "opsNorm", fn := fun _ => fun
  | [d] => { results := [.lit (.bool true)], args := [d] }
  | _ => none }
def opsNormRow : OpenClaim := { program := "ytkmoilfjaejjpaa", sum := "64593459156461ddf28fa34dc4668f0c3ab9cf7979c7a278d80d1603fb83e95f", func := "patchwork/patchworklaw8.OpsNorm", spec := "opsNorm", inPlace := ["internal/bytealg.IndexByteString"], unfollowed := true, recurses := true, apart := false }
def OpsNormSaid : Prop := opsNormRow.holds Try.pinned (OpenSpec.ofChange opsNormSpec)

/-- ITS FALSE NEIGHBOUR: 'it returns false'. Refute it at one input. -/
def opsNormWrong : ChangeSpec := { name := "opsNorm", fn := fun _ => fun
  | [d] => { results := [.lit (.bool false)], args := [d] }
  | _ => none }
def OpsNormWrongFalsely : Prop := opsNormRow.holds Try.pinned (OpenSpec.ofChange opsNormWrong)

/-- 'patchworklaw8.OpsOpen': WHATEVER THE INPUT: true; the input reads as it did. -/
def opsOpenSpec : ChangeSpec := { name := "opsOpen", fn := fun _ => fun
  | [d1, d2, d3, d4] => { results := [.lit (.bool true)], args := [d1, d2, d3, d4] }
  | _ => none }
def opsOpenRow : OpenClaim := { program := "ytkmoilfjaejjpaa", sum := "64593459156461ddf28fa34dc4668f0c3ab9cf7979c7a278d80d1603fb83e95f", func := "patchwork/patchworklaw8.OpsOpen", spec := "opsOpen", inPlace := ["internal/bytealg.IndexByteString"], unfollowed := true, recurses := true, apart := false }
def OpsOpenSaid : Prop := opsOpenRow.holds Try.pinned (OpenSpec.ofChange opsOpenSpec)

/-- ITS FALSE NEIGHBOUR: 'it returns false'. Refute it at one input. -/
def opsOpenWrong : ChangeSpec := { name := "opsOpen", fn := fun _ => fun
  | [d1, d2, d3, d4] => { results := [.lit (.bool false)], args := [d1, d2, d3, d4] }
  | _ => none }
def OpsOpenWrongFalsely : Prop := opsOpenRow.holds Try.pinned (OpenSpec.ofChange opsOpenWrong)

/-- 'patchworklaw8.OpsLimits': WHATEVER THE INPUT: true; the input reads as it did. -/
def opsLimitsSpec : ChangeSpec := { name := "opsLimits", fn := fun _ => fun
  | [d1, d2] => { results := [.lit (.bool true)], args := [d1, d2] }
  | _ => none }
def opsLimitsRow : OpenClaim := { program := "ytkmoilfjaejjpaa", sum := "64593459156461ddf28fa34dc4668f0c3ab9cf7979c7a278d80d1603fb83e95f", func := "patchwork/patchworklaw8.OpsLimits", spec := "opsLimits", inPlace := ["internal/bytealg.IndexByteString"], unfollowed := true, recurses := true, apart := false }
def OpsLimitsSaid : Prop := opsLimitsRow.holds Try.pinned (OpenSpec.ofChange opsLimitsSpec)

/-- ITS FALSE NEIGHBOUR: 'it returns false'. Refute it at one input. -/
def opsLimitsWrong : ChangeSpec := { name := "opsLimits", fn := fun _ => fun
  | [d1, d2] => { results := [.lit (.bool false)], args := [d1, d2] }
  | _ => none }
def OpsLimitsWrongFalsely : Prop := opsLimitsRow.holds Try.pinned (OpenSpec.ofChange opsLimitsWrong)

/-- 'patchworklaw8.OpsParts': WHATEVER THE INPUT: true; the input reads as it did. -/
def opsPartsSpec : ChangeSpec := { name := "opsParts", fn := fun _ => fun
  | [d1, d2] => { results := [.lit (.bool true)], args := [d1, d2] }
  | _ => none }
def opsPartsRow : OpenClaim := { program := "ytkmoilfjaejjpaa", sum := "64593459156461ddf28fa34dc4668f0c3ab9cf7979c7a278d80d1603fb83e95f", func := "patchwork/patchworklaw8.OpsParts", spec := "opsParts", inPlace := ["internal/bytealg.IndexByteString"], unfollowed := true, recurses := true, apart := false }
def OpsPartsSaid : Prop := opsPartsRow.holds Try.pinned (OpenSpec.ofChange opsPartsSpec)

/-- ITS FALSE NEIGHBOUR: 'it returns false'. Refute it at one input. -/
def opsPartsWrong : ChangeSpec := { name := "opsParts", fn := fun _ => fun
  | [d1, d2] => { results := [.lit (.bool false)], args := [d1, d2] }
  | _ => none }
def OpsPartsWrongFalsely : Prop := opsPartsRow.holds Try.pinned (OpenSpec.ofChange opsPartsWrong)

/-- 'patchworklaw8.OpsEach': WHATEVER THE INPUT: true; the input reads as it did. -/
def opsEachSpec : ChangeSpec := { name := "opsEach", fn := fun _ => fun
  | [d] => { results := [.lit (.bool true)], args := [d] }
  | _ => none }
def opsEachRow : OpenClaim := { program := "ytkmoilfjaejjpaa", sum := "64593459156461ddf28fa34dc4668f0c3ab9cf7979c7a278d80d1603fb83e95f", func := "patchwork/patchworklaw8.OpsEach", spec := "opsEach", inPlace := ["internal/bytealg.IndexByteString"], unfollowed := true, recurses := true, apart := false }
def OpsEachSaid : Prop := opsEachRow.holds Try.pinned (OpenSpec.ofChange opsEachSpec)

/-- ITS FALSE NEIGHBOUR: 'it returns false'. Refute it at one input. -/
def opsEachWrong : ChangeSpec := { name := "opsEach", fn := fun _ => fun
  | [d] => { results := [.lit (.bool false)], args := [d] }
  | _ => none }
def OpsEachWrongFalsely : Prop := opsEachRow.holds Try.pinned (OpenSpec.ofChange opsEachWrong)

/- THE SECOND FORM. 'bulk': how many values and letters a reading holds, each counted each time it is reached (what is shared counts as often as it is met; a slice's spare places count too). A statement '..UptoSaid' is the law's where the arguments, and the package variables that the reading takes, are together of bulk at most 1048576: NARROWER than '..Said'. Prove '..Said' where nothing that the law and all that it calls make is longer than what came in: it says more and counts as full. Else prove '..UptoSaid'. A law counts once. -/
mutual
def uptoBulk {H : Type} : DataW H → Nat
  | .lit (.string bytes) => bytes.length + 1
  | .lit _ => 1
  | .nil => 1
  | .ptr d => uptoBulk d + 1
  | .slice elems spare => uptoBulkAll elems + uptoBulkAll spare + 1
  | .agg parts => uptoBulkAll parts + 1
  | .iface _ d => uptoBulk d + 1
  | .map entries => uptoBulkEntries entries + 1
  | .held _ => 1
def uptoBulkAll {H : Type} : List (DataW H) → Nat
  | [] => 0
  | d :: r => uptoBulk d + uptoBulkAll r
def uptoBulkEntries {H : Type} : List (Lit × DataW H) → Nat
  | [] => 0
  | x :: r => uptoBulkEntry x + uptoBulkEntries r
def uptoBulkEntry {H : Type} : Lit × DataW H → Nat
  | (.string bytes, d) => bytes.length + uptoBulk d + 1
  | (_, d) => uptoBulk d + 1
 end
def uptoSmall : (H : Type) → List (DataW H) → Bool := fun _ ds => decide (uptoBulkAll ds ≤ 1048576)
def OpenSpec.upto (s : _root_.Go.ChangeSpec) : _root_.Go.OpenSpec := { _root_.Go.OpenSpec.ofChange s with cond := some uptoSmall }

/-- 'patchworklaw8.OpsTell', WHERE WHAT IT READS IS OF BULK AT MOST 1048576: true; the input reads as it did. -/
def opsTellUptoRow : OpenClaim := { program := "ytkmoilfjaejjpaa", sum := "64593459156461ddf28fa34dc4668f0c3ab9cf7979c7a278d80d1603fb83e95f", func := "patchwork/patchworklaw8.OpsTell", spec := "opsTell", inPlace := ["internal/bytealg.IndexByteString"], unfollowed := true, recurses := true, apart := false, narrowed := true }
def OpsTellUptoSaid : Prop := opsTellUptoRow.holds Try.pinned (OpenSpec.upto opsTellSpec)

/-- 'patchworklaw8.OpsNorm', WHERE WHAT IT READS IS OF BULK AT MOST 1048576: true; the input reads as it did. -/
def opsNormUptoRow : OpenClaim := { program := "ytkmoilfjaejjpaa", sum := "64593459156461ddf28fa34dc4668f0c3ab9cf7979c7a278d80d1603fb83e95f", func := "patchwork/patchworklaw8.OpsNorm", spec := "opsNorm", inPlace := ["internal/bytealg.IndexByteString"], unfollowed := true, recurses := true, apart := false, narrowed := true }
def OpsNormUptoSaid : Prop := opsNormUptoRow.holds Try.pinned (OpenSpec.upto opsNormSpec)

/-- 'patchworklaw8.OpsOpen', WHERE WHAT IT READS IS OF BULK AT MOST 1048576: true; the input reads as it did. -/
def opsOpenUptoRow : OpenClaim := { program := "ytkmoilfjaejjpaa", sum := "64593459156461ddf28fa34dc4668f0c3ab9cf7979c7a278d80d1603fb83e95f", func := "patchwork/patchworklaw8.OpsOpen", spec := "opsOpen", inPlace := ["internal/bytealg.IndexByteString"], unfollowed := true, recurses := true, apart := false, narrowed := true }
def OpsOpenUptoSaid : Prop := opsOpenUptoRow.holds Try.pinned (OpenSpec.upto opsOpenSpec)

/-- 'patchworklaw8.OpsLimits', WHERE WHAT IT READS IS OF BULK AT MOST 1048576: true; the input reads as it did. -/
def opsLimitsUptoRow : OpenClaim := { program := "ytkmoilfjaejjpaa", sum := "64593459156461ddf28fa34dc4668f0c3ab9cf7979c7a278d80d1603fb83e95f", func := "patchwork/patchworklaw8.OpsLimits", spec := "opsLimits", inPlace := ["internal/bytealg.IndexByteString"], unfollowed := true, recurses := true, apart := false, narrowed := true }
def OpsLimitsUptoSaid : Prop := opsLimitsUptoRow.holds Try.pinned (OpenSpec.upto opsLimitsSpec)

/-- 'patchworklaw8.OpsParts', WHERE WHAT IT READS IS OF BULK AT MOST 1048576: true; the input reads as it did. -/
def opsPartsUptoRow : OpenClaim := { program := "ytkmoilfjaejjpaa", sum := "64593459156461ddf28fa34dc4668f0c3ab9cf7979c7a278d80d1603fb83e95f", func := "patchwork/patchworklaw8.OpsParts", spec := "opsParts", inPlace := ["internal/bytealg.IndexByteString"], unfollowed := true, recurses := true, apart := false, narrowed := true }
def OpsPartsUptoSaid : Prop := opsPartsUptoRow.holds Try.pinned (OpenSpec.upto opsPartsSpec)

/-- 'patchworklaw8.OpsEach', WHERE WHAT IT READS IS OF BULK AT MOST 1048576: true; the input reads as it did. -/
def opsEachUptoRow : OpenClaim := { program := "ytkmoilfjaejjpaa", sum := "64593459156461ddf28fa34dc4668f0c3ab9cf7979c7a278d80d1603fb83e95f", func := "patchwork/patchworklaw8.OpsEach", spec := "opsEach", inPlace := ["internal/bytealg.IndexByteString"], unfollowed := true, recurses := true, apart := false, narrowed := true }
def OpsEachUptoSaid : Prop := opsEachUptoRow.holds Try.pinned (OpenSpec.upto opsEachSpec)

end Rows
end Go.Proofs.Ytkmoilfjaejjpaa

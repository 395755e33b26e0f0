/-
  No cell of these rows narrows 'for every input' (looked for: loops, veiled, ifaces, maps, wideKeys, modest, calm, conditions, laid).
  DERIVED. THE GIVEN ROWS OF THIS SEAT. 4 by the template 'for every input the law returns true; each argument reads behind the call as it read before'; 0 by the template 'total and deterministic' (their statements: YtebikpdjamnhbaaTotals.lean).
  GIVEN WITH THE SEED: the statements are not yours to turn. If you find one false, say at which input.
  Laid BY PROGRAM, IN A SANDBOX (cutbox-rows.mjs): the forced cells as the released guide's own fill.sh prints them over the translation f8b8a563c6cc35ce… (all of the seat's roots in one cut). By AI agents, Wed Nov 11 2026. No macro, syntax, notation, axiom, sorry.
-/
import Derived.Test.YtebikpdjamnhbaaChecked
import GoSem.Claim
import GoSem.ClaimJoined
import GoSem.ClaimMapViews
import Derived.JoinedTies
import Derived.KernelRfl
namespace Go.Proofs.Ytebikpdjamnhbaa
/- THE CELL 'sum', in the pinned program and in every row, IS THE sha256 OF THE DUMP (.gsa) THAT YtebikpdjamnhbaaProg.lean LOADS. Nothing in Lean hashes anything: it is a label: what it is worth is what the hold of that sum in a sandbox is worth. -/
noncomputable def Try.pinned : Pinned := { name := "ytebikpdjamnhbaa", sum := "f8b8a563c6cc35ce97924763a46dfaeb5844145f637bb33904ce83ea1bd12238", checked := Try.checked }
namespace Rows
def none {H : Type} : Left H := { results := [], args := [] }

/-- 'patchworklaw10.FlipTells': WHATEVER THE INPUT: true; the input reads as it did. -/
def flipTellsSpec : ChangeSpec := { name := "flipTells", fn := fun _ => fun
  | [d] => { results := [.lit (.bool true)], args := [d] }
  | _ => none }
def flipTellsRow : OpenClaim := { program := "ytebikpdjamnhbaa", sum := "f8b8a563c6cc35ce97924763a46dfaeb5844145f637bb33904ce83ea1bd12238", func := "patchwork/patchworklaw10.FlipTells", spec := "flipTells", inPlace := ["internal/bytealg.IndexByteString"], unfollowed := true, recurses := true, apart := false }
def FlipTellsSaid : Prop := flipTellsRow.holds Try.pinned (OpenSpec.ofChange flipTellsSpec)

/-- ITS FALSE NEIGHBOUR: 'it returns false'. Refute it at one input. -/
def flipTellsWrong : ChangeSpec := { name := "flipTells", fn := fun _ => fun
  | [d] => { results := [.lit (.bool false)], args := [d] }
  | _ => none }
def FlipTellsWrongFalsely : Prop := flipTellsRow.holds Try.pinned (OpenSpec.ofChange flipTellsWrong)

/-- 'patchworklaw10.FlipTwice': WHATEVER THE INPUT: true; the input reads as it did. -/
def flipTwiceSpec : ChangeSpec := { name := "flipTwice", fn := fun _ => fun
  | [d] => { results := [.lit (.bool true)], args := [d] }
  | _ => none }
def flipTwiceRow : OpenClaim := { program := "ytebikpdjamnhbaa", sum := "f8b8a563c6cc35ce97924763a46dfaeb5844145f637bb33904ce83ea1bd12238", func := "patchwork/patchworklaw10.FlipTwice", spec := "flipTwice", inPlace := ["internal/bytealg.IndexByteString"], unfollowed := true, recurses := true, apart := false }
def FlipTwiceSaid : Prop := flipTwiceRow.holds Try.pinned (OpenSpec.ofChange flipTwiceSpec)

/-- ITS FALSE NEIGHBOUR: 'it returns false'. Refute it at one input. -/
def flipTwiceWrong : ChangeSpec := { name := "flipTwice", fn := fun _ => fun
  | [d] => { results := [.lit (.bool false)], args := [d] }
  | _ => none }
def FlipTwiceWrongFalsely : Prop := flipTwiceRow.holds Try.pinned (OpenSpec.ofChange flipTwiceWrong)

/-- 'patchworklaw10.FlipUndoes': WHATEVER THE INPUT: true; the input reads as it did. -/
def flipUndoesSpec : ChangeSpec := { name := "flipUndoes", fn := fun _ => fun
  | [d1, d2] => { results := [.lit (.bool true)], args := [d1, d2] }
  | _ => none }
def flipUndoesRow : OpenClaim := { program := "ytebikpdjamnhbaa", sum := "f8b8a563c6cc35ce97924763a46dfaeb5844145f637bb33904ce83ea1bd12238", func := "patchwork/patchworklaw10.FlipUndoes", spec := "flipUndoes", inPlace := ["internal/bytealg.IndexByteString"], unfollowed := true, recurses := true, apart := false }
def FlipUndoesSaid : Prop := flipUndoesRow.holds Try.pinned (OpenSpec.ofChange flipUndoesSpec)

/-- ITS FALSE NEIGHBOUR: 'it returns false'. Refute it at one input. -/
def flipUndoesWrong : ChangeSpec := { name := "flipUndoes", fn := fun _ => fun
  | [d1, d2] => { results := [.lit (.bool false)], args := [d1, d2] }
  | _ => none }
def FlipUndoesWrongFalsely : Prop := flipUndoesRow.holds Try.pinned (OpenSpec.ofChange flipUndoesWrong)

/-- 'patchworklaw10.FlipEach': WHATEVER THE INPUT: true; the input reads as it did. -/
def flipEachSpec : ChangeSpec := { name := "flipEach", fn := fun _ => fun
  | [d] => { results := [.lit (.bool true)], args := [d] }
  | _ => none }
def flipEachRow : OpenClaim := { program := "ytebikpdjamnhbaa", sum := "f8b8a563c6cc35ce97924763a46dfaeb5844145f637bb33904ce83ea1bd12238", func := "patchwork/patchworklaw10.FlipEach", spec := "flipEach", inPlace := ["internal/bytealg.IndexByteString"], unfollowed := true, recurses := true, apart := false }
def FlipEachSaid : Prop := flipEachRow.holds Try.pinned (OpenSpec.ofChange flipEachSpec)

/-- ITS FALSE NEIGHBOUR: 'it returns false'. Refute it at one input. -/
def flipEachWrong : ChangeSpec := { name := "flipEach", fn := fun _ => fun
  | [d] => { results := [.lit (.bool false)], args := [d] }
  | _ => none }
def FlipEachWrongFalsely : Prop := flipEachRow.holds Try.pinned (OpenSpec.ofChange flipEachWrong)

/- THE SECOND FORM. 'bulk': how many values and letters a reading holds, each counted each time it is reached (what is shared counts as often as it is met; a slice's spare places count too). A statement '..UptoSaid' is the law's where the arguments, and the package variables that the reading takes, are together of bulk at most 1048576: NARROWER than '..Said'. Prove '..Said' where nothing that the law and all that it calls make is longer than what came in: it says more and counts as full. Else prove '..UptoSaid'. A law counts once. -/
mutual
def uptoBulk {H : Type} : DataW H → Nat
  | .lit (.string bytes) => bytes.length + 1
  | .lit _ => 1
  | .nil => 1
  | .ptr d => uptoBulk d + 1
  | .slice elems spare => uptoBulkAll elems + uptoBulkAll spare + 1
  | .agg parts => uptoBulkAll parts + 1
  | .iface _ d => uptoBulk d + 1
  | .map entries => uptoBulkEntries entries + 1
  | .held _ => 1
def uptoBulkAll {H : Type} : List (DataW H) → Nat
  | [] => 0
  | d :: r => uptoBulk d + uptoBulkAll r
def uptoBulkEntries {H : Type} : List (Lit × DataW H) → Nat
  | [] => 0
  | x :: r => uptoBulkEntry x + uptoBulkEntries r
def uptoBulkEntry {H : Type} : Lit × DataW H → Nat
  | (.string bytes, d) => bytes.length + uptoBulk d + 1
  | (_, d) => uptoBulk d + 1
 end
def uptoSmall : (H : Type) → List (DataW H) → Bool := fun _ ds => decide (uptoBulkAll ds ≤ 1048576)
def OpenSpec.upto (s : _root_.Go.ChangeSpec) : _root_.Go.OpenSpec := { _root_.Go.OpenSpec.ofChange s with cond := some uptoSmall }

/-- 'patchworklaw10.FlipTells', WHERE WHAT IT READS IS OF BULK AT MOST 1048576: true; the input reads as it did. -/
def flipTellsUptoRow : OpenClaim := { program := "ytebikpdjamnhbaa", sum := "f8b8a563c6cc35ce97924763a46dfaeb5844145f637bb33904ce83ea1bd12238", func := "patchwork/patchworklaw10.FlipTells", spec := "flipTells", inPlace := ["internal/bytealg.IndexByteString"], unfollowed := true, recurses := true, apart := false, narrowed := true }
def FlipTellsUptoSaid : Prop := flipTellsUptoRow.holds Try.pinned (OpenSpec.upto flipTellsSpec)

/-- 'patchworklaw10.FlipTwice', WHERE WHAT IT READS IS OF BULK AT MOST 1048576: true; the input reads as it did. -/
def flipTwiceUptoRow : OpenClaim := { program := "ytebikpdjamnhbaa", sum := "f8b8a563c6cc35ce97924763a46dfaeb5844145f637bb33904ce83ea1bd12238", func := "patchwork/patchworklaw10.FlipTwice", spec := "flipTwice", inPlace := ["internal/bytealg.IndexByteString"], unfollowed := true, recurses := true, apart := false, narrowed := true }
def FlipTwiceUptoSaid : Prop := flipTwiceUptoRow.holds Try.pinned (OpenSpec.upto flipTwiceSpec)

/-- 'patchworklaw10.FlipUndoes', WHERE WHAT IT READS IS OF BULK AT MOST 1048576: true; the input reads as it did. -/
def flipUndoesUptoRow : OpenClaim := { program := "ytebikpdjamnhbaa", sum := "f8b8a563c6cc35ce97924763a46dfaeb5844145f637bb33904ce83ea1bd12238", func := "patchwork/patchworklaw10.FlipUndoes", spec := "flipUndoes", inPlace := ["internal/bytealg.IndexByteString"], unfollowed := true, recurses := true, apart := false, narrowed := true }
def FlipUndoesUptoSaid : Prop := flipUndoesUptoRow.holds Try.pinned (OpenSpec.upto flipUndoesSpec)

/-- 'patchworklaw10.FlipEach', WHERE WHAT IT READS IS OF BULK AT MOST 1048576: true; the input reads as it did. -/
def flipEachUptoRow : OpenClaim := { program := "ytebikpdjamnhbaa", sum := "f8b8a563c6cc35ce97924763a46dfaeb5844145f637bb33904ce83ea1bd12238", func := "patchwork/patchworklaw10.FlipEach", spec := "flipEach", inPlace := ["internal/bytealg.IndexByteString"], unfollowed := true, recurses := true, apart := false, narrowed := true }
def FlipEachUptoSaid : Prop := flipEachUptoRow.holds Try.pinned (OpenSpec.upto flipEachSpec)

end Rows
end Go.Proofs.Ytebikpdjamnhbaa

/-
  No cell of these rows narrows 'for every input' (looked for: loops, veiled, ifaces, maps, wideKeys, modest, calm, conditions, laid).
  DERIVED. THE GIVEN ROWS OF THIS SEAT. 5 by the template 'for every input the law returns true; each argument reads behind the call as it read before'; 0 by the template 'total and deterministic' (their statements: YtmbalnjobcgpkaaTotals.lean).
  GIVEN WITH THE SEED: the statements are not yours to turn. If you find one false, say at which input.
  Laid BY PROGRAM, IN A SANDBOX (cutbox-rows.mjs): the forced cells as the released guide's own fill.sh prints them over the translation dd9ea20f8d27bebe… (all of the seat's roots in one cut). By AI agents, Wed Nov 11 2026. No macro, syntax, notation, axiom, sorry.
-/
import Derived.Test.YtmbalnjobcgpkaaChecked
import GoSem.Claim
import GoSem.ClaimJoined
import GoSem.ClaimMapViews
import Derived.JoinedTies
import Derived.KernelRfl
namespace Go.Proofs.Ytmbalnjobcgpkaa
/- THE CELL 'sum', in the pinned program and in every row, IS THE sha256 OF THE DUMP (.gsa) THAT YtmbalnjobcgpkaaProg.lean LOADS. Nothing in Lean hashes anything: it is a label: what it is worth is what the hold of that sum in a sandbox is worth. -/
noncomputable def Try.pinned : Pinned := { name := "ytmbalnjobcgpkaa", sum := "dd9ea20f8d27bebef8cd1bef15532a93145f54f285e01a50c56d36903cde5e5b", checked := Try.checked }
namespace Rows
def none {H : Type} : Left H := { results := [], args := [] }

/-- 'patchworklaw14.InterTells': WHATEVER THE INPUT: true; the input reads as it did. -/
def interTellsSpec : ChangeSpec := { name := "interTells", fn := fun _ => fun
  | [d1, d2] => { results := [.lit (.bool true)], args := [d1, d2] }
  | _ => none }
def interTellsRow : OpenClaim := { program := "ytmbalnjobcgpkaa", sum := "dd9ea20f8d27bebef8cd1bef15532a93145f54f285e01a50c56d36903cde5e5b", func := "patchwork/patchworklaw14.InterTells", spec := "interTells", inPlace := ["internal/bytealg.IndexByteString", "math/bits.Add64"], unfollowed := true, recurses := true, apart := false }
def InterTellsSaid : Prop := interTellsRow.holds Try.pinned (OpenSpec.ofChange interTellsSpec)

/-- ITS FALSE NEIGHBOUR: 'it returns false'. Refute it at one input. -/
def interTellsWrong : ChangeSpec := { name := "interTells", fn := fun _ => fun
  | [d1, d2] => { results := [.lit (.bool false)], args := [d1, d2] }
  | _ => none }
def InterTellsWrongFalsely : Prop := interTellsRow.holds Try.pinned (OpenSpec.ofChange interTellsWrong)

/-- 'patchworklaw14.InterLeads': WHATEVER THE INPUT: true; the input reads as it did. -/
def interLeadsSpec : ChangeSpec := { name := "interLeads", fn := fun _ => fun
  | [d1, d2, d3] => { results := [.lit (.bool true)], args := [d1, d2, d3] }
  | _ => none }
def interLeadsRow : OpenClaim := { program := "ytmbalnjobcgpkaa", sum := "dd9ea20f8d27bebef8cd1bef15532a93145f54f285e01a50c56d36903cde5e5b", func := "patchwork/patchworklaw14.InterLeads", spec := "interLeads", inPlace := ["internal/bytealg.IndexByteString", "math/bits.Add64"], unfollowed := true, recurses := true, apart := false }
def InterLeadsSaid : Prop := interLeadsRow.holds Try.pinned (OpenSpec.ofChange interLeadsSpec)

/-- ITS FALSE NEIGHBOUR: 'it returns false'. Refute it at one input. -/
def interLeadsWrong : ChangeSpec := { name := "interLeads", fn := fun _ => fun
  | [d1, d2, d3] => { results := [.lit (.bool false)], args := [d1, d2, d3] }
  | _ => none }
def InterLeadsWrongFalsely : Prop := interLeadsRow.holds Try.pinned (OpenSpec.ofChange interLeadsWrong)

/-- 'patchworklaw14.InterSelf': WHATEVER THE INPUT: true; the input reads as it did. -/
def interSelfSpec : ChangeSpec := { name := "interSelf", fn := fun _ => fun
  | [d1, d2] => { results := [.lit (.bool true)], args := [d1, d2] }
  | _ => none }
def interSelfRow : OpenClaim := { program := "ytmbalnjobcgpkaa", sum := "dd9ea20f8d27bebef8cd1bef15532a93145f54f285e01a50c56d36903cde5e5b", func := "patchwork/patchworklaw14.InterSelf", spec := "interSelf", inPlace := ["internal/bytealg.IndexByteString", "math/bits.Add64"], unfollowed := true, recurses := true, apart := false }
def InterSelfSaid : Prop := interSelfRow.holds Try.pinned (OpenSpec.ofChange interSelfSpec)

/-- ITS FALSE NEIGHBOUR: 'it returns false'. Refute it at one input. -/
def interSelfWrong : ChangeSpec := { name := "interSelf", fn := fun _ => fun
  | [d1, d2] => { results := [.lit (.bool false)], args := [d1, d2] }
  | _ => none }
def InterSelfWrongFalsely : Prop := interSelfRow.holds Try.pinned (OpenSpec.ofChange interSelfWrong)

/-- 'patchworklaw14.InterThree': WHATEVER THE INPUT: true; the input reads as it did. -/
def interThreeSpec : ChangeSpec := { name := "interThree", fn := fun _ => fun
  | [d1, d2, d3, d4] => { results := [.lit (.bool true)], args := [d1, d2, d3, d4] }
  | _ => none }
def interThreeRow : OpenClaim := { program := "ytmbalnjobcgpkaa", sum := "dd9ea20f8d27bebef8cd1bef15532a93145f54f285e01a50c56d36903cde5e5b", func := "patchwork/patchworklaw14.InterThree", spec := "interThree", inPlace := ["internal/bytealg.IndexByteString", "math/bits.Add64"], unfollowed := true, recurses := true, apart := false }
def InterThreeSaid : Prop := interThreeRow.holds Try.pinned (OpenSpec.ofChange interThreeSpec)

/-- ITS FALSE NEIGHBOUR: 'it returns false'. Refute it at one input. -/
def interThreeWrong : ChangeSpec := { name := "interThree", fn := fun _ => fun
  | [d1, d2, d3, d4] => { results := [.lit (.bool false)], args := [d1, d2, d3, d4] }
  | _ => none }
def InterThreeWrongFalsely : Prop := interThreeRow.holds Try.pinned (OpenSpec.ofChange interThreeWrong)

/-- 'patchworklaw14.InterEach': WHATEVER THE INPUT: true; the input reads as it did. -/
def interEachSpec : ChangeSpec := { name := "interEach", fn := fun _ => fun
  | [d] => { results := [.lit (.bool true)], args := [d] }
  | _ => none }
def interEachRow : OpenClaim := { program := "ytmbalnjobcgpkaa", sum := "dd9ea20f8d27bebef8cd1bef15532a93145f54f285e01a50c56d36903cde5e5b", func := "patchwork/patchworklaw14.InterEach", spec := "interEach", inPlace := ["internal/bytealg.IndexByteString", "math/bits.Add64"], unfollowed := true, recurses := true, apart := false }
def InterEachSaid : Prop := interEachRow.holds Try.pinned (OpenSpec.ofChange interEachSpec)

/-- ITS FALSE NEIGHBOUR: 'it returns false'. Refute it at one input. -/
def interEachWrong : ChangeSpec := { name := "interEach", fn := fun _ => fun
  | [d] => { results := [.lit (.bool false)], args := [d] }
  | _ => none }
def InterEachWrongFalsely : Prop := interEachRow.holds Try.pinned (OpenSpec.ofChange interEachWrong)

/- THE SECOND FORM. 'bulk': how many values and letters a reading holds, each counted each time it is reached (what is shared counts as often as it is met; a slice's spare places count too). A statement '..UptoSaid' is the law's where the arguments, and the package variables that the reading takes, are together of bulk at most 1048576: NARROWER than '..Said'. Prove '..Said' where nothing that the law and all that it calls make is longer than what came in: it says more and counts as full. Else prove '..UptoSaid'. A law counts once. -/
mutual
def uptoBulk {H : Type} : DataW H → Nat
  | .lit (.string bytes) => bytes.length + 1
  | .lit _ => 1
  | .nil => 1
  | .ptr d => uptoBulk d + 1
  | .slice elems spare => uptoBulkAll elems + uptoBulkAll spare + 1
  | .agg parts => uptoBulkAll parts + 1
  | .iface _ d => uptoBulk d + 1
  | .map entries => uptoBulkEntries entries + 1
  | .held _ => 1
def uptoBulkAll {H : Type} : List (DataW H) → Nat
  | [] => 0
  | d :: r => uptoBulk d + uptoBulkAll r
def uptoBulkEntries {H : Type} : List (Lit × DataW H) → Nat
  | [] => 0
  | x :: r => uptoBulkEntry x + uptoBulkEntries r
def uptoBulkEntry {H : Type} : Lit × DataW H → Nat
  | (.string bytes, d) => bytes.length + uptoBulk d + 1
  | (_, d) => uptoBulk d + 1
 end
def uptoSmall : (H : Type) → List (DataW H) → Bool := fun _ ds => decide (uptoBulkAll ds ≤ 1048576)
def OpenSpec.upto (s : _root_.Go.ChangeSpec) : _root_.Go.OpenSpec := { _root_.Go.OpenSpec.ofChange s with cond := some uptoSmall }

/-- 'patchworklaw14.InterTells', WHERE WHAT IT READS IS OF BULK AT MOST 1048576: true; the input reads as it did. -/
def interTellsUptoRow : OpenClaim := { program := "ytmbalnjobcgpkaa", sum := "dd9ea20f8d27bebef8cd1bef15532a93145f54f285e01a50c56d36903cde5e5b", func := "patchwork/patchworklaw14.InterTells", spec := "interTells", inPlace := ["internal/bytealg.IndexByteString", "math/bits.Add64"], unfollowed := true, recurses := true, apart := false, narrowed := true }
def InterTellsUptoSaid : Prop := interTellsUptoRow.holds Try.pinned (OpenSpec.upto interTellsSpec)

/-- 'patchworklaw14.InterLeads', WHERE WHAT IT READS IS OF BULK AT MOST 1048576: true; the input reads as it did. -/
def interLeadsUptoRow : OpenClaim := { program := "ytmbalnjobcgpkaa", sum := "dd9ea20f8d27bebef8cd1bef15532a93145f54f285e01a50c56d36903cde5e5b", func := "patchwork/patchworklaw14.InterLeads", spec := "interLeads", inPlace := ["internal/bytealg.IndexByteString", "math/bits.Add64"], unfollowed := true, recurses := true, apart := false, narrowed := true }
def InterLeadsUptoSaid : Prop := interLeadsUptoRow.holds Try.pinned (OpenSpec.upto interLeadsSpec)

/-- 'patchworklaw14.InterSelf', WHERE WHAT IT READS IS OF BULK AT MOST 1048576: true; the input reads as it did. -/
def interSelfUptoRow : OpenClaim := { program := "ytmbalnjobcgpkaa", sum := "dd9ea20f8d27bebef8cd1bef15532a93145f54f285e01a50c56d36903cde5e5b", func := "patchwork/patchworklaw14.InterSelf", spec := "interSelf", inPlace := ["internal/bytealg.IndexByteString", "math/bits.Add64"], unfollowed := true, recurses := true, apart := false, narrowed := true }
def InterSelfUptoSaid : Prop := interSelfUptoRow.holds Try.pinned (OpenSpec.upto interSelfSpec)

/-- 'patchworklaw14.InterThree', WHERE WHAT IT READS IS OF BULK AT MOST 1048576: true; the input reads as it did. -/
def interThreeUptoRow : OpenClaim := { program := "ytmbalnjobcgpkaa", sum := "dd9ea20f8d27bebef8cd1bef15532a93145f54f285e01a50c56d36903cde5e5b", func := "patchwork/patchworklaw14.InterThree", spec := "interThree", inPlace := ["internal/bytealg.IndexByteString", "math/bits.Add64"], unfollowed := true, recurses := true, apart := false, narrowed := true }
def InterThreeUptoSaid : Prop := interThreeUptoRow.holds Try.pinned (OpenSpec.upto interThreeSpec)

/-- 'patchworklaw14.InterEach', WHERE WHAT IT READS IS OF BULK AT MOST 1048576: true; the input reads as it did. -/
def interEachUptoRow : OpenClaim := { program := "ytmbalnjobcgpkaa", sum := "dd9ea20f8d27bebef8cd1bef15532a93145f54f285e01a50c56d36903cde5e5b", func := "patchwork/patchworklaw14.InterEach", spec := "interEach", inPlace := ["internal/bytealg.IndexByteString", "math/bits.Add64"], unfollowed := true, recurses := true, apart := false, narrowed := true }
def InterEachUptoSaid : Prop := interEachUptoRow.holds Try.pinned (OpenSpec.upto interEachSpec)

end Rows
end Go.Proofs.Ytmbalnjobcgpkaa

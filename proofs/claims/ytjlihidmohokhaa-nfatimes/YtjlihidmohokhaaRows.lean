/-
  NARROWER THAN 'FOR EVERY INPUT', by the rows' own cells (each row's printed sentence says how): NfaTells: loops.
  DERIVED. THE GIVEN ROWS OF THIS SEAT. 6 by the template 'for every input the law returns true; each argument reads behind the call as it read before'; 0 by the template 'total and deterministic' (their statements: YtjlihidmohokhaaTotals.lean).
  GIVEN WITH THE SEED: the statements are not yours to turn. If you find one false, say at which input.
  Laid BY PROGRAM, IN A SANDBOX (cutbox-rows.mjs): the forced cells as the released guide's own fill.sh prints them over the translation 3bd533a8f4d9f1b3… (all of the seat's roots in one cut). By AI agents, Wed Nov 11 2026. No macro, syntax, notation, axiom, sorry.
-/
import Derived.Test.YtjlihidmohokhaaChecked
import GoSem.Claim
import GoSem.ClaimJoined
import GoSem.ClaimMapViews
import Derived.JoinedTies
import Derived.KernelRfl
namespace Go.Proofs.Ytjlihidmohokhaa
/- THE CELL 'sum', in the pinned program and in every row, IS THE sha256 OF THE DUMP (.gsa) THAT YtjlihidmohokhaaProg.lean LOADS. Nothing in Lean hashes anything: it is a label: what it is worth is what the hold of that sum in a sandbox is worth. -/
noncomputable def Try.pinned : Pinned := { name := "ytjlihidmohokhaa", sum := "3bd533a8f4d9f1b3e0f36ecda768d46c5241e9d94ec5de554380a7098b2a6b23", checked := Try.checked }
namespace Rows
def none {H : Type} : Left H := { results := [], args := [] }

/-- 'patchworklaw7.NfaTells': WHATEVER THE INPUT: true; the input reads as it did. -/
def nfaTellsSpec : ChangeSpec := { name := "nfaTells", fn := fun _ => fun
  | [d1, d2, d3] => { results := [.lit (.bool true)], args := [d1, d2, d3] }
  | _ => none }
def nfaTellsRow : OpenClaim := { program := "ytjlihidmohokhaa", sum := "3bd533a8f4d9f1b3e0f36ecda768d46c5241e9d94ec5de554380a7098b2a6b23", func := "patchwork/patchworklaw7.NfaTells", spec := "nfaTells", unfollowed := true, recurses := true, loops := true, apart := false }
def NfaTellsSaid : Prop := nfaTellsRow.holds Try.pinned (OpenSpec.ofChange nfaTellsSpec)

/-- ITS FALSE NEIGHBOUR: 'it returns false'. Refute it at one input. -/
def nfaTellsWrong : ChangeSpec := { name := "nfaTells", fn := fun _ => fun
  | [d1, d2, d3] => { results := [.lit (.bool false)], args := [d1, d2, d3] }
  | _ => none }
def NfaTellsWrongFalsely : Prop := nfaTellsRow.holds Try.pinned (OpenSpec.ofChange nfaTellsWrong)

/-- 'patchworklaw7.NfaFinds': WHATEVER THE INPUT: true; the input reads as it did. -/
def nfaFindsSpec : ChangeSpec := { name := "nfaFinds", fn := fun _ => fun
  | [d1, d2] => { results := [.lit (.bool true)], args := [d1, d2] }
  | _ => none }
def nfaFindsRow : OpenClaim := { program := "ytjlihidmohokhaa", sum := "3bd533a8f4d9f1b3e0f36ecda768d46c5241e9d94ec5de554380a7098b2a6b23", func := "patchwork/patchworklaw7.NfaFinds", spec := "nfaFinds", unfollowed := true, recurses := true, apart := false }
def NfaFindsSaid : Prop := nfaFindsRow.holds Try.pinned (OpenSpec.ofChange nfaFindsSpec)

/-- ITS FALSE NEIGHBOUR: 'it returns false'. Refute it at one input. -/
def nfaFindsWrong : ChangeSpec := { name := "nfaFinds", fn := fun _ => fun
  | [d1, d2] => { results := [.lit (.bool false)], args := [d1, d2] }
  | _ => none }
def NfaFindsWrongFalsely : Prop := nfaFindsRow.holds Try.pinned (OpenSpec.ofChange nfaFindsWrong)

/-- 'patchworklaw7.NfaAlts': WHATEVER THE INPUT: true; the input reads as it did. -/
def nfaAltsSpec : ChangeSpec := { name := "nfaAlts", fn := fun _ => fun
  | [d1, d2, d3] => { results := [.lit (.bool true)], args := [d1, d2, d3] }
  | _ => none }
def nfaAltsRow : OpenClaim := { program := "ytjlihidmohokhaa", sum := "3bd533a8f4d9f1b3e0f36ecda768d46c5241e9d94ec5de554380a7098b2a6b23", func := "patchwork/patchworklaw7.NfaAlts", spec := "nfaAlts", unfollowed := true, recurses := true, apart := false }
def NfaAltsSaid : Prop := nfaAltsRow.holds Try.pinned (OpenSpec.ofChange nfaAltsSpec)

/-- ITS FALSE NEIGHBOUR: 'it returns false'. Refute it at one input. -/
def nfaAltsWrong : ChangeSpec := { name := "nfaAlts", fn := fun _ => fun
  | [d1, d2, d3] => { results := [.lit (.bool false)], args := [d1, d2, d3] }
  | _ => none }
def NfaAltsWrongFalsely : Prop := nfaAltsRow.holds Try.pinned (OpenSpec.ofChange nfaAltsWrong)

/-- 'patchworklaw7.NfaTimes': WHATEVER THE INPUT: true; the input reads as it did. -/
def nfaTimesSpec : ChangeSpec := { name := "nfaTimes", fn := fun _ => fun
  | [d1, d2, d3] => { results := [.lit (.bool true)], args := [d1, d2, d3] }
  | _ => none }
def nfaTimesRow : OpenClaim := { program := "ytjlihidmohokhaa", sum := "3bd533a8f4d9f1b3e0f36ecda768d46c5241e9d94ec5de554380a7098b2a6b23", func := "patchwork/patchworklaw7.NfaTimes", spec := "nfaTimes", unfollowed := true, recurses := true, apart := false }
def NfaTimesSaid : Prop := nfaTimesRow.holds Try.pinned (OpenSpec.ofChange nfaTimesSpec)

/-- ITS FALSE NEIGHBOUR: 'it returns false'. Refute it at one input. -/
def nfaTimesWrong : ChangeSpec := { name := "nfaTimes", fn := fun _ => fun
  | [d1, d2, d3] => { results := [.lit (.bool false)], args := [d1, d2, d3] }
  | _ => none }
def NfaTimesWrongFalsely : Prop := nfaTimesRow.holds Try.pinned (OpenSpec.ofChange nfaTimesWrong)

/-- 'patchworklaw7.NfaEach': WHATEVER THE INPUT: true; the input reads as it did. -/
def nfaEachSpec : ChangeSpec := { name := "nfaEach", fn := fun _ => fun
  | [d] => { results := [.lit (.bool true)], args := [d] }
  | _ => none }
def nfaEachRow : OpenClaim := { program := "ytjlihidmohokhaa", sum := "3bd533a8f4d9f1b3e0f36ecda768d46c5241e9d94ec5de554380a7098b2a6b23", func := "patchwork/patchworklaw7.NfaEach", spec := "nfaEach", unfollowed := true, recurses := true, apart := false }
def NfaEachSaid : Prop := nfaEachRow.holds Try.pinned (OpenSpec.ofChange nfaEachSpec)

/-- ITS FALSE NEIGHBOUR: 'it returns false'. Refute it at one input. -/
def nfaEachWrong : ChangeSpec := { name := "nfaEach", fn := fun _ => fun
  | [d] => { results := [.lit (.bool false)], args := [d] }
  | _ => none }
def NfaEachWrongFalsely : Prop := nfaEachRow.holds Try.pinned (OpenSpec.ofChange nfaEachWrong)

/-- 'patchworklaw7.NfaWords': WHATEVER THE INPUT: true; the input reads as it did. -/
def nfaWordsSpec : ChangeSpec := { name := "nfaWords", fn := fun _ => fun
  | [d1, d2] => { results := [.lit (.bool true)], args := [d1, d2] }
  | _ => none }
def nfaWordsRow : OpenClaim := { program := "ytjlihidmohokhaa", sum := "3bd533a8f4d9f1b3e0f36ecda768d46c5241e9d94ec5de554380a7098b2a6b23", func := "patchwork/patchworklaw7.NfaWords", spec := "nfaWords", unfollowed := true, recurses := true, apart := false }
def NfaWordsSaid : Prop := nfaWordsRow.holds Try.pinned (OpenSpec.ofChange nfaWordsSpec)

/-- ITS FALSE NEIGHBOUR: 'it returns false'. Refute it at one input. -/
def nfaWordsWrong : ChangeSpec := { name := "nfaWords", fn := fun _ => fun
  | [d1, d2] => { results := [.lit (.bool false)], args := [d1, d2] }
  | _ => none }
def NfaWordsWrongFalsely : Prop := nfaWordsRow.holds Try.pinned (OpenSpec.ofChange nfaWordsWrong)

/- THE SECOND FORM. 'bulk': how many values and letters a reading holds, each counted each time it is reached (what is shared counts as often as it is met; a slice's spare places count too). A statement '..UptoSaid' is the law's where the arguments, and the package variables that the reading takes, are together of bulk at most 1048576: NARROWER than '..Said'. Prove '..Said' where nothing that the law and all that it calls make is longer than what came in: it says more and counts as full. Else prove '..UptoSaid'. A law counts once. -/
mutual
def uptoBulk {H : Type} : DataW H → Nat
  | .lit (.string bytes) => bytes.length + 1
  | .lit _ => 1
  | .nil => 1
  | .ptr d => uptoBulk d + 1
  | .slice elems spare => uptoBulkAll elems + uptoBulkAll spare + 1
  | .agg parts => uptoBulkAll parts + 1
  | .iface _ d => uptoBulk d + 1
  | .map entries => uptoBulkEntries entries + 1
  | .held _ => 1
def uptoBulkAll {H : Type} : List (DataW H) → Nat
  | [] => 0
  | d :: r => uptoBulk d + uptoBulkAll r
def uptoBulkEntries {H : Type} : List (Lit × DataW H) → Nat
  | [] => 0
  | x :: r => uptoBulkEntry x + uptoBulkEntries r
def uptoBulkEntry {H : Type} : Lit × DataW H → Nat
  | (.string bytes, d) => bytes.length + uptoBulk d + 1
  | (_, d) => uptoBulk d + 1
 end
def uptoSmall : (H : Type) → List (DataW H) → Bool := fun _ ds => decide (uptoBulkAll ds ≤ 1048576)
def OpenSpec.upto (s : _root_.Go.ChangeSpec) : _root_.Go.OpenSpec := { _root_.Go.OpenSpec.ofChange s with cond := some uptoSmall }

/-- 'patchworklaw7.NfaTells', WHERE WHAT IT READS IS OF BULK AT MOST 1048576: true; the input reads as it did. -/
def nfaTellsUptoRow : OpenClaim := { program := "ytjlihidmohokhaa", sum := "3bd533a8f4d9f1b3e0f36ecda768d46c5241e9d94ec5de554380a7098b2a6b23", func := "patchwork/patchworklaw7.NfaTells", spec := "nfaTells", unfollowed := true, recurses := true, loops := true, apart := false, narrowed := true }
def NfaTellsUptoSaid : Prop := nfaTellsUptoRow.holds Try.pinned (OpenSpec.upto nfaTellsSpec)

/-- 'patchworklaw7.NfaFinds', WHERE WHAT IT READS IS OF BULK AT MOST 1048576: true; the input reads as it did. -/
def nfaFindsUptoRow : OpenClaim := { program := "ytjlihidmohokhaa", sum := "3bd533a8f4d9f1b3e0f36ecda768d46c5241e9d94ec5de554380a7098b2a6b23", func := "patchwork/patchworklaw7.NfaFinds", spec := "nfaFinds", unfollowed := true, recurses := true, apart := false, narrowed := true }
def NfaFindsUptoSaid : Prop := nfaFindsUptoRow.holds Try.pinned (OpenSpec.upto nfaFindsSpec)

/-- 'patchworklaw7.NfaAlts', WHERE WHAT IT READS IS OF BULK AT MOST 1048576: true; the input reads as it did. -/
def nfaAltsUptoRow : OpenClaim := { program := "ytjlihidmohokhaa", sum := "3bd533a8f4d9f1b3e0f36ecda768d46c5241e9d94ec5de554380a7098b2a6b23", func := "patchwork/patchworklaw7.NfaAlts", spec := "nfaAlts", unfollowed := true, recurses := true, apart := false, narrowed := true }
def NfaAltsUptoSaid : Prop := nfaAltsUptoRow.holds Try.pinned (OpenSpec.upto nfaAltsSpec)

/-- 'patchworklaw7.NfaTimes', WHERE WHAT IT READS IS OF BULK AT MOST 1048576: true; the input reads as it did. -/
def nfaTimesUptoRow : OpenClaim := { program := "ytjlihidmohokhaa", sum := "3bd533a8f4d9f1b3e0f36ecda768d46c5241e9d94ec5de554380a7098b2a6b23", func := "patchwork/patchworklaw7.NfaTimes", spec := "nfaTimes", unfollowed := true, recurses := true, apart := false, narrowed := true }
def NfaTimesUptoSaid : Prop := nfaTimesUptoRow.holds Try.pinned (OpenSpec.upto nfaTimesSpec)

/-- 'patchworklaw7.NfaEach', WHERE WHAT IT READS IS OF BULK AT MOST 1048576: true; the input reads as it did. -/
def nfaEachUptoRow : OpenClaim := { program := "ytjlihidmohokhaa", sum := "3bd533a8f4d9f1b3e0f36ecda768d46c5241e9d94ec5de554380a7098b2a6b23", func := "patchwork/patchworklaw7.NfaEach", spec := "nfaEach", unfollowed := true, recurses := true, apart := false, narrowed := true }
def NfaEachUptoSaid : Prop := nfaEachUptoRow.holds Try.pinned (OpenSpec.upto nfaEachSpec)

/-- 'patchworklaw7.NfaWords', WHERE WHAT IT READS IS OF BULK AT MOST 1048576: true; the input reads as it did. -/
def nfaWordsUptoRow : OpenClaim := { program := "ytjlihidmohokhaa", sum := "3bd533a8f4d9f1b3e0f36ecda768d46c5241e9d94ec5de554380a7098b2a6b23", func := "patchwork/patchworklaw7.NfaWords", spec := "nfaWords", unfollowed := true, recurses := true, apart := false, narrowed := true }
def NfaWordsUptoSaid : Prop := nfaWordsUptoRow.holds Try.pinned (OpenSpec.upto nfaWordsSpec)

end Rows
end Go.Proofs.Ytjlihidmohokhaa

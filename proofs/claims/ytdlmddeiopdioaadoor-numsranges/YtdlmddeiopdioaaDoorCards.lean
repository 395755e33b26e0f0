/-
  DERIVED. GIVEN WITH THE SEED: THE CARDS: each row of YtdlmddeiopdioaaDoorRows.lean that lists a variable, with what it lists TIED to the program's text (the seventh form; the later family's looks); each row that meets fmt, with fmt's text TOLD by the authors' own Lean function (tested against real Go, not proved from fmt's source: count such statements apart). THE CARD IS WHAT COUNTS. Prove the row's statement (the work); the ties are given (YtdlmddeiopdioaaDoorTie.lean); close each card by the builder's one call (the guide's Derived/Test/ToyasCard.lean, 'card_holds'). Laid BY PROGRAM, IN A SANDBOX (cutbox-door.mjs). By AI agents, Wed Nov 11 2026. No macro, syntax, notation, axiom, sorry.
-/
import Derived.Test.YtdlmddeiopdioaaDoorRows
import GoSem.ClaimSeven
namespace Go.Proofs.YtdlmddeiopdioaaDoor
namespace Rows

/-- THE TIED CARD OF 'patchworklaw2.NumsTell'. -/
def numsTellCard : Claim7 := { stood := { row := numsTellRow, standIns := [], harness := (true, "1379247c4f8bfed9de6418030743a5e8a298f1202d3b5fe9337208f5db0bd158"), looks := false }, kinds := [], alts := [], laidByText := true, laidKinds := [.data, .data, .data, .data, .pinned], laidTests := true, laidLooks := .later }
def NumsTellCardSaid : Prop := Claim7.holds Tryd.pinned (.plain (OpenSpec.ofChange numsTellSpec)) numsTellCard

/-- THE TIED CARD OF 'patchworklaw2.NumsBack'. -/
def numsBackCard : Claim7 := { stood := { row := numsBackRow, standIns := [], harness := (true, "1379247c4f8bfed9de6418030743a5e8a298f1202d3b5fe9337208f5db0bd158"), looks := false }, kinds := [], alts := [], laidByText := true, laidKinds := [.data, .data, .data, .data, .pinned], laidTests := true, laidLooks := .later }
def NumsBackCardSaid : Prop := Claim7.holds Tryd.pinned (.plain (OpenSpec.ofChange numsBackSpec)) numsBackCard

/-- THE TIED CARD OF 'patchworklaw2.NumsRanges'. -/
def numsRangesCard : Claim7 := { stood := { row := numsRangesRow, standIns := [], harness := (true, "1379247c4f8bfed9de6418030743a5e8a298f1202d3b5fe9337208f5db0bd158"), looks := false }, kinds := [], alts := [], laidByText := true, laidKinds := [.data, .data, .data, .data, .pinned], laidTests := true, laidLooks := .later }
def NumsRangesCardSaid : Prop := Claim7.holds Tryd.pinned (.plain (OpenSpec.ofChange numsRangesSpec)) numsRangesCard

/-- THE TIED CARD OF 'patchworklaw2.NumsWrong'. -/
def numsWrongCard : Claim7 := { stood := { row := numsWrongRow, standIns := [], harness := (true, "1379247c4f8bfed9de6418030743a5e8a298f1202d3b5fe9337208f5db0bd158"), looks := false }, kinds := [], alts := [], laidByText := true, laidKinds := [.data, .data, .data, .data, .pinned], laidTests := true, laidLooks := .later }
def NumsWrongCardSaid : Prop := Claim7.holds Tryd.pinned (.plain (OpenSpec.ofChange numsWrongSpec)) numsWrongCard

/-- THE TIED CARD OF 'patchworklaw2.NumsRow'. -/
def numsRowCard : Claim7 := { stood := { row := numsRowRow, standIns := [], harness := (true, "1379247c4f8bfed9de6418030743a5e8a298f1202d3b5fe9337208f5db0bd158"), looks := false }, kinds := [], alts := [], laidByText := true, laidKinds := [.data, .data, .data, .data, .pinned], laidTests := true, laidLooks := .later }
def NumsRowCardSaid : Prop := Claim7.holds Tryd.pinned (.plain (OpenSpec.ofChange numsRowSpec)) numsRowCard

/-- THE SECOND FORM's CARD OF 'patchworklaw2.NumsTell'. -/
def numsTellUptoCard : Claim7 := { stood := { row := numsTellUptoRow, standIns := [], harness := (true, "1379247c4f8bfed9de6418030743a5e8a298f1202d3b5fe9337208f5db0bd158"), looks := false }, kinds := [], alts := [], laidByText := true, laidKinds := [.data, .data, .data, .data, .pinned], laidTests := true, laidLooks := .later }
def NumsTellUptoCardSaid : Prop := Claim7.holds Tryd.pinned (.plain (OpenSpec.upto numsTellSpec)) numsTellUptoCard

/-- THE SECOND FORM's CARD OF 'patchworklaw2.NumsBack'. -/
def numsBackUptoCard : Claim7 := { stood := { row := numsBackUptoRow, standIns := [], harness := (true, "1379247c4f8bfed9de6418030743a5e8a298f1202d3b5fe9337208f5db0bd158"), looks := false }, kinds := [], alts := [], laidByText := true, laidKinds := [.data, .data, .data, .data, .pinned], laidTests := true, laidLooks := .later }
def NumsBackUptoCardSaid : Prop := Claim7.holds Tryd.pinned (.plain (OpenSpec.upto numsBackSpec)) numsBackUptoCard

/-- THE SECOND FORM's CARD OF 'patchworklaw2.NumsRanges'. -/
def numsRangesUptoCard : Claim7 := { stood := { row := numsRangesUptoRow, standIns := [], harness := (true, "1379247c4f8bfed9de6418030743a5e8a298f1202d3b5fe9337208f5db0bd158"), looks := false }, kinds := [], alts := [], laidByText := true, laidKinds := [.data, .data, .data, .data, .pinned], laidTests := true, laidLooks := .later }
def NumsRangesUptoCardSaid : Prop := Claim7.holds Tryd.pinned (.plain (OpenSpec.upto numsRangesSpec)) numsRangesUptoCard

/-- THE SECOND FORM's CARD OF 'patchworklaw2.NumsWrong'. -/
def numsWrongUptoCard : Claim7 := { stood := { row := numsWrongUptoRow, standIns := [], harness := (true, "1379247c4f8bfed9de6418030743a5e8a298f1202d3b5fe9337208f5db0bd158"), looks := false }, kinds := [], alts := [], laidByText := true, laidKinds := [.data, .data, .data, .data, .pinned], laidTests := true, laidLooks := .later }
def NumsWrongUptoCardSaid : Prop := Claim7.holds Tryd.pinned (.plain (OpenSpec.upto numsWrongSpec)) numsWrongUptoCard

/-- THE SECOND FORM's CARD OF 'patchworklaw2.NumsRow'. -/
def numsRowUptoCard : Claim7 := { stood := { row := numsRowUptoRow, standIns := [], harness := (true, "1379247c4f8bfed9de6418030743a5e8a298f1202d3b5fe9337208f5db0bd158"), looks := false }, kinds := [], alts := [], laidByText := true, laidKinds := [.data, .data, .data, .data, .pinned], laidTests := true, laidLooks := .later }
def NumsRowUptoCardSaid : Prop := Claim7.holds Tryd.pinned (.plain (OpenSpec.upto numsRowSpec)) numsRowUptoCard
end Rows
end Go.Proofs.YtdlmddeiopdioaaDoor

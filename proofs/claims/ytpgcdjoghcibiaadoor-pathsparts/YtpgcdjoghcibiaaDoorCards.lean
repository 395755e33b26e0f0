/-
  DERIVED. GIVEN WITH THE SEED: THE CARDS: each row of YtpgcdjoghcibiaaDoorRows.lean that lists a variable, with what it lists TIED to the program's text (the seventh form; the later family's looks); each row that meets fmt, with fmt's text TOLD by the authors' own Lean function (tested against real Go, not proved from fmt's source: count such statements apart). THE CARD IS WHAT COUNTS. Prove the row's statement (the work); the ties are given (YtpgcdjoghcibiaaDoorTie.lean); close each card by the builder's one call (the guide's Derived/Test/ToyasCard.lean, 'card_holds'). Laid BY PROGRAM, IN A SANDBOX (cutbox-door.mjs). By AI agents, Wed Nov 11 2026. No macro, syntax, notation, axiom, sorry.
-/
import Derived.Test.YtpgcdjoghcibiaaDoorRows
import GoSem.ClaimSeven
namespace Go.Proofs.YtpgcdjoghcibiaaDoor
namespace Rows

/-- THE TIED CARD OF 'patchworklaw3.PathsTell'. -/
def pathsTellCard : Claim7 := { stood := { row := pathsTellRow, standIns := [], harness := (true, "30cfd005d5af61a14677cf94e819f97498d8acb9442ec58a40344d0d6a18b31b"), looks := false }, kinds := [], alts := [], laidByText := true, laidKinds := [.data, .pinned], laidTests := true, laidLooks := .later }
def PathsTellCardSaid : Prop := Claim7.holds Tryd.pinned (.plain (OpenSpec.ofChange pathsTellSpec)) pathsTellCard

/-- THE TIED CARD OF 'patchworklaw3.PathsStrip'. -/
def pathsStripCard : Claim7 := { stood := { row := pathsStripRow, standIns := [], harness := (true, "30cfd005d5af61a14677cf94e819f97498d8acb9442ec58a40344d0d6a18b31b"), looks := false }, kinds := [], alts := [], laidByText := true, laidKinds := [.data, .pinned], laidTests := true, laidLooks := .later }
def PathsStripCardSaid : Prop := Claim7.holds Tryd.pinned (.plain (OpenSpec.ofChange pathsStripSpec)) pathsStripCard

/-- THE TIED CARD OF 'patchworklaw3.PathsParts'. -/
def pathsPartsCard : Claim7 := { stood := { row := pathsPartsRow, standIns := [], harness := (true, "30cfd005d5af61a14677cf94e819f97498d8acb9442ec58a40344d0d6a18b31b"), looks := false }, kinds := [], alts := [], laidByText := true, laidKinds := [.data, .pinned], laidTests := true, laidLooks := .later }
def PathsPartsCardSaid : Prop := Claim7.holds Tryd.pinned (.plain (OpenSpec.ofChange pathsPartsSpec)) pathsPartsCard

/-- THE TIED CARD OF 'patchworklaw3.PathsEach'. -/
def pathsEachCard : Claim7 := { stood := { row := pathsEachRow, standIns := [], harness := (true, "30cfd005d5af61a14677cf94e819f97498d8acb9442ec58a40344d0d6a18b31b"), looks := false }, kinds := [], alts := [], laidByText := true, laidKinds := [.data, .pinned], laidTests := true, laidLooks := .later }
def PathsEachCardSaid : Prop := Claim7.holds Tryd.pinned (.plain (OpenSpec.ofChange pathsEachSpec)) pathsEachCard

/-- THE SECOND FORM's CARD OF 'patchworklaw3.PathsTell'. -/
def pathsTellUptoCard : Claim7 := { stood := { row := pathsTellUptoRow, standIns := [], harness := (true, "30cfd005d5af61a14677cf94e819f97498d8acb9442ec58a40344d0d6a18b31b"), looks := false }, kinds := [], alts := [], laidByText := true, laidKinds := [.data, .pinned], laidTests := true, laidLooks := .later }
def PathsTellUptoCardSaid : Prop := Claim7.holds Tryd.pinned (.plain (OpenSpec.upto pathsTellSpec)) pathsTellUptoCard

/-- THE SECOND FORM's CARD OF 'patchworklaw3.PathsStrip'. -/
def pathsStripUptoCard : Claim7 := { stood := { row := pathsStripUptoRow, standIns := [], harness := (true, "30cfd005d5af61a14677cf94e819f97498d8acb9442ec58a40344d0d6a18b31b"), looks := false }, kinds := [], alts := [], laidByText := true, laidKinds := [.data, .pinned], laidTests := true, laidLooks := .later }
def PathsStripUptoCardSaid : Prop := Claim7.holds Tryd.pinned (.plain (OpenSpec.upto pathsStripSpec)) pathsStripUptoCard

/-- THE SECOND FORM's CARD OF 'patchworklaw3.PathsParts'. -/
def pathsPartsUptoCard : Claim7 := { stood := { row := pathsPartsUptoRow, standIns := [], harness := (true, "30cfd005d5af61a14677cf94e819f97498d8acb9442ec58a40344d0d6a18b31b"), looks := false }, kinds := [], alts := [], laidByText := true, laidKinds := [.data, .pinned], laidTests := true, laidLooks := .later }
def PathsPartsUptoCardSaid : Prop := Claim7.holds Tryd.pinned (.plain (OpenSpec.upto pathsPartsSpec)) pathsPartsUptoCard

/-- THE SECOND FORM's CARD OF 'patchworklaw3.PathsEach'. -/
def pathsEachUptoCard : Claim7 := { stood := { row := pathsEachUptoRow, standIns := [], harness := (true, "30cfd005d5af61a14677cf94e819f97498d8acb9442ec58a40344d0d6a18b31b"), looks := false }, kinds := [], alts := [], laidByText := true, laidKinds := [.data, .pinned], laidTests := true, laidLooks := .later }
def PathsEachUptoCardSaid : Prop := Claim7.holds Tryd.pinned (.plain (OpenSpec.upto pathsEachSpec)) pathsEachUptoCard
end Rows
end Go.Proofs.YtpgcdjoghcibiaaDoor

/-
  DERIVED. GIVEN WITH THE SEED: THE CARDS: each row of YtcnmajndackohaaGreatDoorRows.lean that lists a variable, with what it lists TIED to the program's text (the seventh form; the later family's looks); each row that meets fmt, with fmt's text TOLD by the authors' own Lean function (tested against real Go, not proved from fmt's source: count such statements apart). THE CARD IS WHAT COUNTS. Prove the row's statement (the work); the ties are given (YtcnmajndackohaaGreatDoorTie.lean); close each card by the builder's one call (the guide's Derived/Test/ToyasCard.lean, 'card_holds'). Laid BY PROGRAM, IN A SANDBOX (cutbox-door.mjs). By AI agents, Wed Nov 11 2026. No macro, syntax, notation, axiom, sorry.
-/
import Derived.Test.YtcnmajndackohaaGreatDoorRows
import GoSem.ClaimSeven
namespace Go.Proofs.YtcnmajndackohaaGreatDoor
namespace Rows

/-- THE TIED CARD OF 'towpathlaw.Tests'. -/
def testsCard : Claim7 := { stood := { row := testsRow, standIns := [], harness := (true, "cced748bd61f77661a9e8458d90ff5345ebf94e5a4c43893f52a53e46310def5"), looks := true }, kinds := [], alts := [], laidByText := true, laidKinds := [.data, .data, .data, .handle, .sentinel, .sentinel, .sentinel, .sentinel, .sentinel, .sentinel], laidTests := true, laidLooks := .later }
def TestsCardSaid : Prop := Claim7.holds Tryz.pinned (.plain (OpenSpec.ofChange testsSpec)) testsCard

/-- THE TIED CARD OF 'towpathlaw.Lines'. -/
def linesCard : Claim7 := { stood := { row := linesRow, standIns := [], harness := (true, "cced748bd61f77661a9e8458d90ff5345ebf94e5a4c43893f52a53e46310def5"), looks := true }, kinds := [], alts := [], laidByText := true, laidKinds := [.data, .data, .data, .handle, .sentinel, .sentinel, .sentinel, .sentinel, .sentinel, .sentinel], laidTests := true, laidLooks := .later }
def LinesCardSaid : Prop := Claim7.holds Tryz.pinned (.plain (OpenSpec.ofChange linesSpec)) linesCard

/-- THE TIED CARD OF 'towpathkeep.InTime'. -/
def inTimeCard : Claim7 := { stood := { row := inTimeRow, standIns := [], harness := (true, "cced748bd61f77661a9e8458d90ff5345ebf94e5a4c43893f52a53e46310def5"), looks := true }, kinds := [], alts := [], laidByText := true, laidKinds := [.data, .data, .data, .handle, .sentinel, .sentinel, .sentinel, .sentinel, .sentinel, .sentinel], laidTests := true, laidLooks := .later }
def InTimeCardSaid : Prop := Claim7.holds Tryz.pinned (.plain (OpenSpec.ofChange inTimeSpec)) inTimeCard

/-- THE TIED CARD OF 'towpathkeep.Late'. -/
def lateCard : Claim7 := { stood := { row := lateRow, standIns := [], harness := (true, "cced748bd61f77661a9e8458d90ff5345ebf94e5a4c43893f52a53e46310def5"), looks := true }, kinds := [], alts := [], laidByText := true, laidKinds := [.data, .data, .data, .handle, .sentinel, .sentinel, .sentinel, .sentinel, .sentinel, .sentinel], laidTests := true, laidLooks := .later }
def LateCardSaid : Prop := Claim7.holds Tryz.pinned (.plain (OpenSpec.ofChange lateSpec)) lateCard

/-- THE TIED CARD OF 'towpathkeep.Orderly'. -/
def orderlyCard : Claim7 := { stood := { row := orderlyRow, standIns := [], harness := (true, "cced748bd61f77661a9e8458d90ff5345ebf94e5a4c43893f52a53e46310def5"), looks := true }, kinds := [], alts := [], laidByText := true, laidKinds := [.data, .data, .data, .handle, .sentinel, .sentinel, .sentinel, .sentinel, .sentinel, .sentinel], laidTests := true, laidLooks := .later }
def OrderlyCardSaid : Prop := Claim7.holds Tryz.pinned (.plain (OpenSpec.ofChange orderlySpec)) orderlyCard

/-- THE TIED CARD OF 'towpathkeep.Changing'. -/
def changingCard : Claim7 := { stood := { row := changingRow, standIns := [], harness := (true, "cced748bd61f77661a9e8458d90ff5345ebf94e5a4c43893f52a53e46310def5"), looks := true }, kinds := [], alts := [], laidByText := true, laidKinds := [.data, .data, .data, .handle, .sentinel, .sentinel, .sentinel, .sentinel, .sentinel, .sentinel], laidTests := true, laidLooks := .later }
def ChangingCardSaid : Prop := Claim7.holds Tryz.pinned (.plain (OpenSpec.ofChange changingSpec)) changingCard

/-- THE TIED CARD OF 'towpathlaw.All'. -/
def allCard : Claim7 := { stood := { row := allRow, standIns := [], harness := (true, "cced748bd61f77661a9e8458d90ff5345ebf94e5a4c43893f52a53e46310def5"), looks := true }, kinds := [], alts := [], laidByText := true, laidKinds := [.data, .data, .data, .handle, .sentinel, .sentinel, .sentinel, .sentinel, .sentinel, .sentinel], laidTests := true, laidLooks := .later }
def AllCardSaid : Prop := Claim7.holds Tryz.pinned (.plain (OpenSpec.ofChange allSpec)) allCard

/-- THE SECOND FORM's CARD OF 'towpathlaw.Tests'. -/
def testsUptoCard : Claim7 := { stood := { row := testsUptoRow, standIns := [], harness := (true, "cced748bd61f77661a9e8458d90ff5345ebf94e5a4c43893f52a53e46310def5"), looks := true }, kinds := [], alts := [], laidByText := true, laidKinds := [.data, .data, .data, .handle, .sentinel, .sentinel, .sentinel, .sentinel, .sentinel, .sentinel], laidTests := true, laidLooks := .later }
def TestsUptoCardSaid : Prop := Claim7.holds Tryz.pinned (.plain (OpenSpec.upto testsSpec)) testsUptoCard

/-- THE SECOND FORM's CARD OF 'towpathlaw.Lines'. -/
def linesUptoCard : Claim7 := { stood := { row := linesUptoRow, standIns := [], harness := (true, "cced748bd61f77661a9e8458d90ff5345ebf94e5a4c43893f52a53e46310def5"), looks := true }, kinds := [], alts := [], laidByText := true, laidKinds := [.data, .data, .data, .handle, .sentinel, .sentinel, .sentinel, .sentinel, .sentinel, .sentinel], laidTests := true, laidLooks := .later }
def LinesUptoCardSaid : Prop := Claim7.holds Tryz.pinned (.plain (OpenSpec.upto linesSpec)) linesUptoCard

/-- THE SECOND FORM's CARD OF 'towpathkeep.InTime'. -/
def inTimeUptoCard : Claim7 := { stood := { row := inTimeUptoRow, standIns := [], harness := (true, "cced748bd61f77661a9e8458d90ff5345ebf94e5a4c43893f52a53e46310def5"), looks := true }, kinds := [], alts := [], laidByText := true, laidKinds := [.data, .data, .data, .handle, .sentinel, .sentinel, .sentinel, .sentinel, .sentinel, .sentinel], laidTests := true, laidLooks := .later }
def InTimeUptoCardSaid : Prop := Claim7.holds Tryz.pinned (.plain (OpenSpec.upto inTimeSpec)) inTimeUptoCard

/-- THE SECOND FORM's CARD OF 'towpathkeep.Late'. -/
def lateUptoCard : Claim7 := { stood := { row := lateUptoRow, standIns := [], harness := (true, "cced748bd61f77661a9e8458d90ff5345ebf94e5a4c43893f52a53e46310def5"), looks := true }, kinds := [], alts := [], laidByText := true, laidKinds := [.data, .data, .data, .handle, .sentinel, .sentinel, .sentinel, .sentinel, .sentinel, .sentinel], laidTests := true, laidLooks := .later }
def LateUptoCardSaid : Prop := Claim7.holds Tryz.pinned (.plain (OpenSpec.upto lateSpec)) lateUptoCard

/-- THE SECOND FORM's CARD OF 'towpathkeep.Orderly'. -/
def orderlyUptoCard : Claim7 := { stood := { row := orderlyUptoRow, standIns := [], harness := (true, "cced748bd61f77661a9e8458d90ff5345ebf94e5a4c43893f52a53e46310def5"), looks := true }, kinds := [], alts := [], laidByText := true, laidKinds := [.data, .data, .data, .handle, .sentinel, .sentinel, .sentinel, .sentinel, .sentinel, .sentinel], laidTests := true, laidLooks := .later }
def OrderlyUptoCardSaid : Prop := Claim7.holds Tryz.pinned (.plain (OpenSpec.upto orderlySpec)) orderlyUptoCard

/-- THE SECOND FORM's CARD OF 'towpathkeep.Changing'. -/
def changingUptoCard : Claim7 := { stood := { row := changingUptoRow, standIns := [], harness := (true, "cced748bd61f77661a9e8458d90ff5345ebf94e5a4c43893f52a53e46310def5"), looks := true }, kinds := [], alts := [], laidByText := true, laidKinds := [.data, .data, .data, .handle, .sentinel, .sentinel, .sentinel, .sentinel, .sentinel, .sentinel], laidTests := true, laidLooks := .later }
def ChangingUptoCardSaid : Prop := Claim7.holds Tryz.pinned (.plain (OpenSpec.upto changingSpec)) changingUptoCard

/-- THE SECOND FORM's CARD OF 'towpathlaw.All'. -/
def allUptoCard : Claim7 := { stood := { row := allUptoRow, standIns := [], harness := (true, "cced748bd61f77661a9e8458d90ff5345ebf94e5a4c43893f52a53e46310def5"), looks := true }, kinds := [], alts := [], laidByText := true, laidKinds := [.data, .data, .data, .handle, .sentinel, .sentinel, .sentinel, .sentinel, .sentinel, .sentinel], laidTests := true, laidLooks := .later }
def AllUptoCardSaid : Prop := Claim7.holds Tryz.pinned (.plain (OpenSpec.upto allSpec)) allUptoCard
end Rows
end Go.Proofs.YtcnmajndackohaaGreatDoor

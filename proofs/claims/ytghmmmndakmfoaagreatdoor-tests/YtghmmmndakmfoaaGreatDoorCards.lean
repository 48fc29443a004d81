/-
  DERIVED. GIVEN WITH THE SEED: THE CARDS: each row of YtghmmmndakmfoaaGreatDoorRows.lean that lists a variable, with what it lists TIED to the program's text (the seventh form; the later family's looks); each row that meets fmt, with fmt's text TOLD by the authors' own Lean function (tested against real Go, not proved from fmt's source: count such statements apart). THE CARD IS WHAT COUNTS. Prove the row's statement (the work); the ties are given (YtghmmmndakmfoaaGreatDoorTie.lean); close each card by the builder's one call (the guide's Derived/Test/ToyasCard.lean, 'card_holds'). Laid BY PROGRAM, IN A SANDBOX (cutbox-door.mjs). By AI agents, Wed Nov 11 2026. No macro, syntax, notation, axiom, sorry.
-/
import Derived.Test.YtghmmmndakmfoaaGreatDoorRows
import GoSem.ClaimSeven
namespace Go.Proofs.YtghmmmndakmfoaaGreatDoor
namespace Rows

/-- THE TIED CARD OF 'towpathlaw.Tests'. -/
def testsCard : Claim7 := { stood := { row := testsRow, standIns := [], harness := (true, "fb0a891a3ea4814732ce191ea8d5d5f099dd9368502d47a8cbf8709ffcac558c"), looks := true }, kinds := [], alts := [], laidByText := true, laidKinds := [.data, .data, .data, .handle, .sentinel, .sentinel], laidTests := true, laidLooks := .later }
def TestsCardSaid : Prop := Claim7.holds Tryz.pinned (.plain (OpenSpec.ofChange testsSpec)) testsCard

/-- THE SECOND FORM's CARD OF 'towpathlaw.Tests'. -/
def testsUptoCard : Claim7 := { stood := { row := testsUptoRow, standIns := [], harness := (true, "fb0a891a3ea4814732ce191ea8d5d5f099dd9368502d47a8cbf8709ffcac558c"), looks := true }, kinds := [], alts := [], laidByText := true, laidKinds := [.data, .data, .data, .handle, .sentinel, .sentinel], laidTests := true, laidLooks := .later }
def TestsUptoCardSaid : Prop := Claim7.holds Tryz.pinned (.plain (OpenSpec.upto testsSpec)) testsUptoCard
end Rows
end Go.Proofs.YtghmmmndakmfoaaGreatDoor

/-
  DERIVED. GIVEN WITH THE SEED: THE CARDS: each row of YtokpfbbhkmlclaaGreatDoorRows.lean that lists a variable, with what it lists TIED to the program's text (the seventh form; the later family's looks); each row that meets fmt, with fmt's text TOLD by the authors' own Lean function (tested against real Go, not proved from fmt's source: count such statements apart). THE CARD IS WHAT COUNTS. Prove the row's statement (the work); the ties are given (YtokpfbbhkmlclaaGreatDoorTie.lean); close each card by the builder's one call (the guide's Derived/Test/ToyasCard.lean, 'card_holds'). Laid BY PROGRAM, IN A SANDBOX (cutbox-door.mjs). By AI agents, Wed Nov 11 2026. No macro, syntax, notation, axiom, sorry.
-/
import Derived.Test.YtokpfbbhkmlclaaGreatDoorRows
import GoSem.ClaimSeven
namespace Go.Proofs.YtokpfbbhkmlclaaGreatDoor
namespace Rows

/-- THE TIED CARD OF 'groovelaw08.RunsInverse'. -/
def runsInverseCard : Claim7 := { stood := { row := runsInverseRow, standIns := [], harness := (true, "c17bf50d9d904792b4bf8dc4cea3ba72f93df11e31ad60cb3ff6167efd201148"), looks := true }, kinds := [], alts := [], laidByText := true, laidKinds := [.data, .pinned], laidTests := true, laidLooks := .later }
def RunsInverseCardSaid : Prop := Claim7.holds Tryz.pinned (.plain (OpenSpec.ofChange runsInverseSpec)) runsInverseCard

/-- THE SECOND FORM's CARD OF 'groovelaw08.RunsInverse'. -/
def runsInverseUptoCard : Claim7 := { stood := { row := runsInverseUptoRow, standIns := [], harness := (true, "c17bf50d9d904792b4bf8dc4cea3ba72f93df11e31ad60cb3ff6167efd201148"), looks := true }, kinds := [], alts := [], laidByText := true, laidKinds := [.data, .pinned], laidTests := true, laidLooks := .later }
def RunsInverseUptoCardSaid : Prop := Claim7.holds Tryz.pinned (.plain (OpenSpec.upto runsInverseSpec)) runsInverseUptoCard
end Rows
end Go.Proofs.YtokpfbbhkmlclaaGreatDoor

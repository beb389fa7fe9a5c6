/-
  DERIVED. GIVEN WITH THE SEED: THE CARDS: each row of YtmdkkeklihfdgaaGreatDoorRows.lean that lists a variable, with what it lists TIED to the program's text (the seventh form; the later family's looks); each row that meets fmt, with fmt's text TOLD by the authors' own Lean function (tested against real Go, not proved from fmt's source: count such statements apart). THE CARD IS WHAT COUNTS. Prove the row's statement (the work); the ties are given (YtmdkkeklihfdgaaGreatDoorTie.lean); close each card by the builder's one call (the guide's Derived/Test/ToyasCard.lean, 'card_holds'). Laid BY PROGRAM, IN A SANDBOX (cutbox-door.mjs). By AI agents, Wed Nov 11 2026. No macro, syntax, notation, axiom, sorry.
-/
import Derived.Test.YtmdkkeklihfdgaaGreatDoorRows
import GoSem.ClaimSeven
namespace Go.Proofs.YtmdkkeklihfdgaaGreatDoor
namespace Rows

/-- THE TIED CARD OF 'groovelaw01.IntegerBasics'. -/
def integerBasicsCard : Claim7 := { stood := { row := integerBasicsRow, standIns := [], harness := (true, "f6611667a3a41e003f04327db78542277b7813a68a518e660e387018e4416a30"), looks := false }, kinds := [], alts := [], laidByText := true, laidKinds := [.data, .data, .data, .data, .pinned], laidTests := true, laidLooks := .later }
def IntegerBasicsCardSaid : Prop := Claim7.holds Tryz.pinned (.plain (OpenSpec.ofChange integerBasicsSpec)) integerBasicsCard

/-- THE SECOND FORM's CARD OF 'groovelaw01.IntegerBasics'. -/
def integerBasicsUptoCard : Claim7 := { stood := { row := integerBasicsUptoRow, standIns := [], harness := (true, "f6611667a3a41e003f04327db78542277b7813a68a518e660e387018e4416a30"), looks := false }, kinds := [], alts := [], laidByText := true, laidKinds := [.data, .data, .data, .data, .pinned], laidTests := true, laidLooks := .later }
def IntegerBasicsUptoCardSaid : Prop := Claim7.holds Tryz.pinned (.plain (OpenSpec.upto integerBasicsSpec)) integerBasicsUptoCard
end Rows
end Go.Proofs.YtmdkkeklihfdgaaGreatDoor

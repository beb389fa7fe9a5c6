/-
  DERIVED. GIVEN WITH THE SEED: THE CARDS: each row of YtigdjlhihhakmaaGreatDoorRows.lean that lists a variable, with what it lists TIED to the program's text (the seventh form; the later family's looks); each row that meets fmt, with fmt's text TOLD by the authors' own Lean function (tested against real Go, not proved from fmt's source: count such statements apart). THE CARD IS WHAT COUNTS. Prove the row's statement (the work); the ties are given (YtigdjlhihhakmaaGreatDoorTie.lean); close each card by the builder's one call (the guide's Derived/Test/ToyasCard.lean, 'card_holds'). Laid BY PROGRAM, IN A SANDBOX (cutbox-door.mjs). By AI agents, Wed Nov 11 2026. No macro, syntax, notation, axiom, sorry.
-/
import Derived.Test.YtigdjlhihhakmaaGreatDoorRows
import GoSem.ClaimSeven
namespace Go.Proofs.YtigdjlhihhakmaaGreatDoor
namespace Rows

/-- THE TIED CARD OF 'groovelaw07.WordRanks'. -/
def wordRanksCard : Claim7 := { stood := { row := wordRanksRow, standIns := [], harness := (true, "cbb69a4508541447d9f8561377ceb15553ff68293f7dc8df9cffb7ff6897e797"), looks := false }, kinds := [], alts := [], laidByText := true, laidKinds := [.data, .pinned], laidTests := true, laidLooks := .later }
def WordRanksCardSaid : Prop := Claim7.holds Tryz.pinned (.plain (OpenSpec.ofChange wordRanksSpec)) wordRanksCard

/-- THE TIED CARD OF 'groovelaw07.WordOrder'. -/
def wordOrderCard : Claim7 := { stood := { row := wordOrderRow, standIns := [], harness := (true, "cbb69a4508541447d9f8561377ceb15553ff68293f7dc8df9cffb7ff6897e797"), looks := false }, kinds := [], alts := [], laidByText := true, laidKinds := [.data, .pinned], laidTests := true, laidLooks := .later }
def WordOrderCardSaid : Prop := Claim7.holds Tryz.pinned (.plain (OpenSpec.ofChange wordOrderSpec)) wordOrderCard

/-- THE SECOND FORM's CARD OF 'groovelaw07.WordRanks'. -/
def wordRanksUptoCard : Claim7 := { stood := { row := wordRanksUptoRow, standIns := [], harness := (true, "cbb69a4508541447d9f8561377ceb15553ff68293f7dc8df9cffb7ff6897e797"), looks := false }, kinds := [], alts := [], laidByText := true, laidKinds := [.data, .pinned], laidTests := true, laidLooks := .later }
def WordRanksUptoCardSaid : Prop := Claim7.holds Tryz.pinned (.plain (OpenSpec.upto wordRanksSpec)) wordRanksUptoCard

/-- THE SECOND FORM's CARD OF 'groovelaw07.WordOrder'. -/
def wordOrderUptoCard : Claim7 := { stood := { row := wordOrderUptoRow, standIns := [], harness := (true, "cbb69a4508541447d9f8561377ceb15553ff68293f7dc8df9cffb7ff6897e797"), looks := false }, kinds := [], alts := [], laidByText := true, laidKinds := [.data, .pinned], laidTests := true, laidLooks := .later }
def WordOrderUptoCardSaid : Prop := Claim7.holds Tryz.pinned (.plain (OpenSpec.upto wordOrderSpec)) wordOrderUptoCard
end Rows
end Go.Proofs.YtigdjlhihhakmaaGreatDoor

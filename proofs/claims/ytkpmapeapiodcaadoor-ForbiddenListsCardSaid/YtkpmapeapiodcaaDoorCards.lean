/-
  DERIVED. GIVEN WITH THE SEED: THE CARDS: each row of YtkpmapeapiodcaaDoorRows.lean that lists a variable, with what it lists TIED to the program's text (the seventh form; the later family's looks); each row that meets fmt, with fmt's text TOLD by the authors' own Lean function (tested against real Go, not proved from fmt's source: count such statements apart). THE CARD IS WHAT COUNTS. Prove the row's statement (the work); the ties are given (YtkpmapeapiodcaaDoorTie.lean); close each card by the builder's one call (the guide's Derived/Test/ToyasCard.lean, 'card_holds'). Laid BY PROGRAM, IN A SANDBOX (cutbox-door.mjs). By AI agents, Wed Nov 11 2026. No macro, syntax, notation, axiom, sorry.
-/
import Derived.Test.YtkpmapeapiodcaaDoorRows
import GoSem.ClaimSeven
namespace Go.Proofs.YtkpmapeapiodcaaDoor
namespace Rows

/-- THE TIED CARD OF 'groovelaw14.ForbiddenLists'. -/
def forbiddenListsCard : Claim7 := { stood := { row := forbiddenListsRow, standIns := [], harness := (true, "91f6bed743f4e5c48143be4916ef5421ad7561c05966422dc9b6291ffb4481f2"), looks := false }, kinds := [], alts := [], laidByText := true, laidKinds := [.data, .pinned], laidTests := true, laidLooks := .later }
def ForbiddenListsCardSaid : Prop := Claim7.holds Tryd.pinned (.plain (OpenSpec.ofChange forbiddenListsSpec)) forbiddenListsCard

/-- THE TIED CARD OF 'groovelaw14.ForbiddenReduces'. -/
def forbiddenReducesCard : Claim7 := { stood := { row := forbiddenReducesRow, standIns := [], harness := (true, "91f6bed743f4e5c48143be4916ef5421ad7561c05966422dc9b6291ffb4481f2"), looks := false }, kinds := [], alts := [], laidByText := true, laidKinds := [.data, .pinned], laidTests := true, laidLooks := .later }
def ForbiddenReducesCardSaid : Prop := Claim7.holds Tryd.pinned (.plain (OpenSpec.ofChange forbiddenReducesSpec)) forbiddenReducesCard

/-- THE SECOND FORM's CARD OF 'groovelaw14.ForbiddenLists'. -/
def forbiddenListsUptoCard : Claim7 := { stood := { row := forbiddenListsUptoRow, standIns := [], harness := (true, "91f6bed743f4e5c48143be4916ef5421ad7561c05966422dc9b6291ffb4481f2"), looks := false }, kinds := [], alts := [], laidByText := true, laidKinds := [.data, .pinned], laidTests := true, laidLooks := .later }
def ForbiddenListsUptoCardSaid : Prop := Claim7.holds Tryd.pinned (.plain (OpenSpec.upto forbiddenListsSpec)) forbiddenListsUptoCard

/-- THE SECOND FORM's CARD OF 'groovelaw14.ForbiddenReduces'. -/
def forbiddenReducesUptoCard : Claim7 := { stood := { row := forbiddenReducesUptoRow, standIns := [], harness := (true, "91f6bed743f4e5c48143be4916ef5421ad7561c05966422dc9b6291ffb4481f2"), looks := false }, kinds := [], alts := [], laidByText := true, laidKinds := [.data, .pinned], laidTests := true, laidLooks := .later }
def ForbiddenReducesUptoCardSaid : Prop := Claim7.holds Tryd.pinned (.plain (OpenSpec.upto forbiddenReducesSpec)) forbiddenReducesUptoCard
end Rows
end Go.Proofs.YtkpmapeapiodcaaDoor

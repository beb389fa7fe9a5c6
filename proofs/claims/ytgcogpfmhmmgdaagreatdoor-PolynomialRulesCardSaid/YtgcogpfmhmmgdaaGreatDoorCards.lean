/-
  DERIVED. GIVEN WITH THE SEED: THE CARDS: each row of YtgcogpfmhmmgdaaGreatDoorRows.lean that lists a variable, with what it lists TIED to the program's text (the seventh form; the later family's looks); each row that meets fmt, with fmt's text TOLD by the authors' own Lean function (tested against real Go, not proved from fmt's source: count such statements apart). THE CARD IS WHAT COUNTS. Prove the row's statement (the work); the ties are given (YtgcogpfmhmmgdaaGreatDoorTie.lean); close each card by the builder's one call (the guide's Derived/Test/ToyasCard.lean, 'card_holds'). Laid BY PROGRAM, IN A SANDBOX (cutbox-door.mjs). By AI agents, Wed Nov 11 2026. No macro, syntax, notation, axiom, sorry.
-/
import Derived.Test.YtgcogpfmhmmgdaaGreatDoorRows
import GoSem.ClaimSeven
namespace Go.Proofs.YtgcogpfmhmmgdaaGreatDoor
namespace Rows

/-- THE TIED CARD OF 'groovelaw03.PolynomialSums'. -/
def polynomialSumsCard : Claim7 := { stood := { row := polynomialSumsRow, standIns := [], harness := (true, "99eb8ea653d7659fb5b029e3b5e96576a7440bafcf1fee7e28ebdf7823abdd93"), looks := false }, kinds := [], alts := [], laidByText := true, laidKinds := [.data, .data, .data, .data, .pinned], laidTests := true, laidLooks := .later }
def PolynomialSumsCardSaid : Prop := Claim7.holds Tryz.pinned (.plain (OpenSpec.ofChange polynomialSumsSpec)) polynomialSumsCard

/-- THE TIED CARD OF 'groovelaw03.PolynomialRules'. -/
def polynomialRulesCard : Claim7 := { stood := { row := polynomialRulesRow, standIns := [], harness := (true, "99eb8ea653d7659fb5b029e3b5e96576a7440bafcf1fee7e28ebdf7823abdd93"), looks := false }, kinds := [], alts := [], laidByText := true, laidKinds := [.data, .data, .data, .data, .pinned], laidTests := true, laidLooks := .later }
def PolynomialRulesCardSaid : Prop := Claim7.holds Tryz.pinned (.plain (OpenSpec.ofChange polynomialRulesSpec)) polynomialRulesCard

/-- THE SECOND FORM's CARD OF 'groovelaw03.PolynomialSums'. -/
def polynomialSumsUptoCard : Claim7 := { stood := { row := polynomialSumsUptoRow, standIns := [], harness := (true, "99eb8ea653d7659fb5b029e3b5e96576a7440bafcf1fee7e28ebdf7823abdd93"), looks := false }, kinds := [], alts := [], laidByText := true, laidKinds := [.data, .data, .data, .data, .pinned], laidTests := true, laidLooks := .later }
def PolynomialSumsUptoCardSaid : Prop := Claim7.holds Tryz.pinned (.plain (OpenSpec.upto polynomialSumsSpec)) polynomialSumsUptoCard

/-- THE SECOND FORM's CARD OF 'groovelaw03.PolynomialRules'. -/
def polynomialRulesUptoCard : Claim7 := { stood := { row := polynomialRulesUptoRow, standIns := [], harness := (true, "99eb8ea653d7659fb5b029e3b5e96576a7440bafcf1fee7e28ebdf7823abdd93"), looks := false }, kinds := [], alts := [], laidByText := true, laidKinds := [.data, .data, .data, .data, .pinned], laidTests := true, laidLooks := .later }
def PolynomialRulesUptoCardSaid : Prop := Claim7.holds Tryz.pinned (.plain (OpenSpec.upto polynomialRulesSpec)) polynomialRulesUptoCard
end Rows
end Go.Proofs.YtgcogpfmhmmgdaaGreatDoor

/-
  DERIVED. GIVEN WITH THE SEED: THE CARDS: each row of YtiekphjhhpledaaGreatDoorRows.lean that lists a variable, with what it lists TIED to the program's text (the seventh form; the later family's looks); each row that meets fmt, with fmt's text TOLD by the authors' own Lean function (tested against real Go, not proved from fmt's source: count such statements apart). THE CARD IS WHAT COUNTS. Prove the row's statement (the work); the ties are given (YtiekphjhhpledaaGreatDoorTie.lean); close each card by the builder's one call (the guide's Derived/Test/ToyasCard.lean, 'card_holds'). Laid BY PROGRAM, IN A SANDBOX (cutbox-door.mjs). By AI agents, Wed Nov 11 2026. No macro, syntax, notation, axiom, sorry.
-/
import Derived.Test.YtiekphjhhpledaaGreatDoorRows
import GoSem.ClaimSeven
namespace Go.Proofs.YtiekphjhhpledaaGreatDoor
namespace Rows

/-- THE TIED CARD OF 'groovelaw03.PolynomialRing'. -/
def polynomialRingCard : Claim7 := { stood := { row := polynomialRingRow, standIns := [], harness := (true, "cd76a05d92d9d6a2fe8ca7d3266b4105727bbeb884353d65390446809528afb4"), looks := false }, kinds := [], alts := [], laidByText := true, laidKinds := [.data, .data, .data, .data, .pinned], laidTests := true, laidLooks := .later }
def PolynomialRingCardSaid : Prop := Claim7.holds Tryz.pinned (.plain (OpenSpec.ofChange polynomialRingSpec)) polynomialRingCard

/-- THE TIED CARD OF 'groovelaw03.PolynomialDivides'. -/
def polynomialDividesCard : Claim7 := { stood := { row := polynomialDividesRow, standIns := [], harness := (true, "cd76a05d92d9d6a2fe8ca7d3266b4105727bbeb884353d65390446809528afb4"), looks := false }, kinds := [], alts := [], laidByText := true, laidKinds := [.data, .data, .data, .data, .pinned], laidTests := true, laidLooks := .later }
def PolynomialDividesCardSaid : Prop := Claim7.holds Tryz.pinned (.plain (OpenSpec.ofChange polynomialDividesSpec)) polynomialDividesCard

/-- THE TIED CARD OF 'groovelaw03.PolynomialTexts'. -/
def polynomialTextsCard : Claim7 := { stood := { row := polynomialTextsRow, standIns := [], harness := (true, "cd76a05d92d9d6a2fe8ca7d3266b4105727bbeb884353d65390446809528afb4"), looks := false }, kinds := [], alts := [], laidByText := true, laidKinds := [.data, .data, .data, .data, .pinned], laidTests := true, laidLooks := .later }
def PolynomialTextsCardSaid : Prop := Claim7.holds Tryz.pinned (.plain (OpenSpec.ofChange polynomialTextsSpec)) polynomialTextsCard

/-- THE SECOND FORM's CARD OF 'groovelaw03.PolynomialRing'. -/
def polynomialRingUptoCard : Claim7 := { stood := { row := polynomialRingUptoRow, standIns := [], harness := (true, "cd76a05d92d9d6a2fe8ca7d3266b4105727bbeb884353d65390446809528afb4"), looks := false }, kinds := [], alts := [], laidByText := true, laidKinds := [.data, .data, .data, .data, .pinned], laidTests := true, laidLooks := .later }
def PolynomialRingUptoCardSaid : Prop := Claim7.holds Tryz.pinned (.plain (OpenSpec.upto polynomialRingSpec)) polynomialRingUptoCard

/-- THE SECOND FORM's CARD OF 'groovelaw03.PolynomialDivides'. -/
def polynomialDividesUptoCard : Claim7 := { stood := { row := polynomialDividesUptoRow, standIns := [], harness := (true, "cd76a05d92d9d6a2fe8ca7d3266b4105727bbeb884353d65390446809528afb4"), looks := false }, kinds := [], alts := [], laidByText := true, laidKinds := [.data, .data, .data, .data, .pinned], laidTests := true, laidLooks := .later }
def PolynomialDividesUptoCardSaid : Prop := Claim7.holds Tryz.pinned (.plain (OpenSpec.upto polynomialDividesSpec)) polynomialDividesUptoCard

/-- THE SECOND FORM's CARD OF 'groovelaw03.PolynomialTexts'. -/
def polynomialTextsUptoCard : Claim7 := { stood := { row := polynomialTextsUptoRow, standIns := [], harness := (true, "cd76a05d92d9d6a2fe8ca7d3266b4105727bbeb884353d65390446809528afb4"), looks := false }, kinds := [], alts := [], laidByText := true, laidKinds := [.data, .data, .data, .data, .pinned], laidTests := true, laidLooks := .later }
def PolynomialTextsUptoCardSaid : Prop := Claim7.holds Tryz.pinned (.plain (OpenSpec.upto polynomialTextsSpec)) polynomialTextsUptoCard
end Rows
end Go.Proofs.YtiekphjhhpledaaGreatDoor

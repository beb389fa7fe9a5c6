/-
  DERIVED. GIVEN WITH THE SEED: THE CARDS: each row of YtblkijdodojaeaaDoorRows.lean that lists a variable, with what it lists TIED to the program's text (the seventh form; the later family's looks); each row that meets fmt, with fmt's text TOLD by the authors' own Lean function (tested against real Go, not proved from fmt's source: count such statements apart). THE CARD IS WHAT COUNTS. Prove the row's statement (the work); the ties are given (YtblkijdodojaeaaDoorTie.lean); close each card by the builder's one call (the guide's Derived/Test/ToyasCard.lean, 'card_holds'). Laid BY PROGRAM, IN A SANDBOX (cutbox-door.mjs). By AI agents, Wed Nov 11 2026. No macro, syntax, notation, axiom, sorry.
-/
import Derived.Test.YtblkijdodojaeaaDoorRows
import GoSem.ClaimSeven
namespace Go.Proofs.YtblkijdodojaeaaDoor
namespace Rows

/-- THE TIED CARD OF 'groovelaw13.MinimalIncludes'. -/
def minimalIncludesCard : Claim7 := { stood := { row := minimalIncludesRow, standIns := [], harness := (true, "49c553e261456c4e116a27c84a04f047386ef822656262143a72aa8e3b891240"), looks := false }, kinds := [], alts := [], laidByText := true, laidKinds := [.data], laidTests := true, laidLooks := .later }
def MinimalIncludesCardSaid : Prop := Claim7.holds Tryd.pinned (.plain (OpenSpec.ofChange minimalIncludesSpec)) minimalIncludesCard

/-- THE TIED CARD OF 'groovelaw13.MinimalEquals'. -/
def minimalEqualsCard : Claim7 := { stood := { row := minimalEqualsRow, standIns := [], harness := (true, "49c553e261456c4e116a27c84a04f047386ef822656262143a72aa8e3b891240"), looks := false }, kinds := [], alts := [], laidByText := true, laidKinds := [.data], laidTests := true, laidLooks := .later }
def MinimalEqualsCardSaid : Prop := Claim7.holds Tryd.pinned (.plain (OpenSpec.ofChange minimalEqualsSpec)) minimalEqualsCard

/-- THE TIED CARD OF 'groovelaw12.SubsetBuilds'. -/
def subsetBuildsCard : Claim7 := { stood := { row := subsetBuildsRow, standIns := [], harness := (true, "49c553e261456c4e116a27c84a04f047386ef822656262143a72aa8e3b891240"), looks := false }, kinds := [], alts := [], laidByText := true, laidKinds := [.data, .data, .pinned], laidTests := true, laidLooks := .later }
def SubsetBuildsCardSaid : Prop := Claim7.holds Tryd.pinned (.plain (OpenSpec.ofChange subsetBuildsSpec)) subsetBuildsCard

/-- THE TIED CARD OF 'groovelaw12.SubsetResults'. -/
def subsetResultsCard : Claim7 := { stood := { row := subsetResultsRow, standIns := [], harness := (true, "49c553e261456c4e116a27c84a04f047386ef822656262143a72aa8e3b891240"), looks := false }, kinds := [], alts := [], laidByText := true, laidKinds := [.data, .data, .pinned], laidTests := true, laidLooks := .later }
def SubsetResultsCardSaid : Prop := Claim7.holds Tryd.pinned (.plain (OpenSpec.ofChange subsetResultsSpec)) subsetResultsCard

/-- THE TIED CARD OF 'groovelaw12.SubsetFoci'. -/
def subsetFociCard : Claim7 := { stood := { row := subsetFociRow, standIns := [], harness := (true, "49c553e261456c4e116a27c84a04f047386ef822656262143a72aa8e3b891240"), looks := false }, kinds := [], alts := [], laidByText := true, laidKinds := [.data, .data, .pinned], laidTests := true, laidLooks := .later }
def SubsetFociCardSaid : Prop := Claim7.holds Tryd.pinned (.plain (OpenSpec.ofChange subsetFociSpec)) subsetFociCard

/-- THE SECOND FORM's CARD OF 'groovelaw13.MinimalIncludes'. -/
def minimalIncludesUptoCard : Claim7 := { stood := { row := minimalIncludesUptoRow, standIns := [], harness := (true, "49c553e261456c4e116a27c84a04f047386ef822656262143a72aa8e3b891240"), looks := false }, kinds := [], alts := [], laidByText := true, laidKinds := [.data], laidTests := true, laidLooks := .later }
def MinimalIncludesUptoCardSaid : Prop := Claim7.holds Tryd.pinned (.plain (OpenSpec.upto minimalIncludesSpec)) minimalIncludesUptoCard

/-- THE SECOND FORM's CARD OF 'groovelaw13.MinimalEquals'. -/
def minimalEqualsUptoCard : Claim7 := { stood := { row := minimalEqualsUptoRow, standIns := [], harness := (true, "49c553e261456c4e116a27c84a04f047386ef822656262143a72aa8e3b891240"), looks := false }, kinds := [], alts := [], laidByText := true, laidKinds := [.data], laidTests := true, laidLooks := .later }
def MinimalEqualsUptoCardSaid : Prop := Claim7.holds Tryd.pinned (.plain (OpenSpec.upto minimalEqualsSpec)) minimalEqualsUptoCard

/-- THE SECOND FORM's CARD OF 'groovelaw12.SubsetBuilds'. -/
def subsetBuildsUptoCard : Claim7 := { stood := { row := subsetBuildsUptoRow, standIns := [], harness := (true, "49c553e261456c4e116a27c84a04f047386ef822656262143a72aa8e3b891240"), looks := false }, kinds := [], alts := [], laidByText := true, laidKinds := [.data, .data, .pinned], laidTests := true, laidLooks := .later }
def SubsetBuildsUptoCardSaid : Prop := Claim7.holds Tryd.pinned (.plain (OpenSpec.upto subsetBuildsSpec)) subsetBuildsUptoCard

/-- THE SECOND FORM's CARD OF 'groovelaw12.SubsetResults'. -/
def subsetResultsUptoCard : Claim7 := { stood := { row := subsetResultsUptoRow, standIns := [], harness := (true, "49c553e261456c4e116a27c84a04f047386ef822656262143a72aa8e3b891240"), looks := false }, kinds := [], alts := [], laidByText := true, laidKinds := [.data, .data, .pinned], laidTests := true, laidLooks := .later }
def SubsetResultsUptoCardSaid : Prop := Claim7.holds Tryd.pinned (.plain (OpenSpec.upto subsetResultsSpec)) subsetResultsUptoCard

/-- THE SECOND FORM's CARD OF 'groovelaw12.SubsetFoci'. -/
def subsetFociUptoCard : Claim7 := { stood := { row := subsetFociUptoRow, standIns := [], harness := (true, "49c553e261456c4e116a27c84a04f047386ef822656262143a72aa8e3b891240"), looks := false }, kinds := [], alts := [], laidByText := true, laidKinds := [.data, .data, .pinned], laidTests := true, laidLooks := .later }
def SubsetFociUptoCardSaid : Prop := Claim7.holds Tryd.pinned (.plain (OpenSpec.upto subsetFociSpec)) subsetFociUptoCard
end Rows
end Go.Proofs.YtblkijdodojaeaaDoor

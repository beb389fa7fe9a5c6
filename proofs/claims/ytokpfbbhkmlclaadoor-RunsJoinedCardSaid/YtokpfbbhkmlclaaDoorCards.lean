/-
  DERIVED. GIVEN WITH THE SEED: THE CARDS: each row of YtokpfbbhkmlclaaDoorRows.lean that lists a variable, with what it lists TIED to the program's text (the seventh form; the later family's looks); each row that meets fmt, with fmt's text TOLD by the authors' own Lean function (tested against real Go, not proved from fmt's source: count such statements apart). THE CARD IS WHAT COUNTS. Prove the row's statement (the work); the ties are given (YtokpfbbhkmlclaaDoorTie.lean); close each card by the builder's one call (the guide's Derived/Test/ToyasCard.lean, 'card_holds'). Laid BY PROGRAM, IN A SANDBOX (cutbox-door.mjs). By AI agents, Wed Nov 11 2026. No macro, syntax, notation, axiom, sorry.
-/
import Derived.Test.YtokpfbbhkmlclaaDoorRows
import GoSem.ClaimSeven
namespace Go.Proofs.YtokpfbbhkmlclaaDoor
namespace Rows

/-- THE TIED CARD OF 'groovelaw08.RunsSplits'. -/
def runsSplitsCard : Claim7 := { stood := { row := runsSplitsRow, standIns := [], harness := (true, "8d4ceed56f4770ccdb3d52124210d8ae45a682b8846cc13d6ad7e7d966f4350a"), looks := false }, kinds := [], alts := [], laidByText := true, laidKinds := [.data, .pinned], laidTests := true, laidLooks := .later }
def RunsSplitsCardSaid : Prop := Claim7.holds Tryd.pinned (.plain (OpenSpec.ofChange runsSplitsSpec)) runsSplitsCard

/-- THE TIED CARD OF 'groovelaw08.RunsLevels'. -/
def runsLevelsCard : Claim7 := { stood := { row := runsLevelsRow, standIns := [], harness := (true, "8d4ceed56f4770ccdb3d52124210d8ae45a682b8846cc13d6ad7e7d966f4350a"), looks := false }, kinds := [], alts := [], laidByText := true, laidKinds := [.data, .pinned], laidTests := true, laidLooks := .later }
def RunsLevelsCardSaid : Prop := Claim7.holds Tryd.pinned (.plain (OpenSpec.ofChange runsLevelsSpec)) runsLevelsCard

/-- THE TIED CARD OF 'groovelaw08.RunsCharges'. -/
def runsChargesCard : Claim7 := { stood := { row := runsChargesRow, standIns := [], harness := (true, "8d4ceed56f4770ccdb3d52124210d8ae45a682b8846cc13d6ad7e7d966f4350a"), looks := false }, kinds := [], alts := [], laidByText := true, laidKinds := [.data, .pinned], laidTests := true, laidLooks := .later }
def RunsChargesCardSaid : Prop := Claim7.holds Tryd.pinned (.plain (OpenSpec.ofChange runsChargesSpec)) runsChargesCard

/-- THE TIED CARD OF 'groovelaw08.RunsJoined'. -/
def runsJoinedCard : Claim7 := { stood := { row := runsJoinedRow, standIns := [], harness := (true, "8d4ceed56f4770ccdb3d52124210d8ae45a682b8846cc13d6ad7e7d966f4350a"), looks := false }, kinds := [], alts := [], laidByText := true, laidKinds := [.data, .pinned], laidTests := true, laidLooks := .later }
def RunsJoinedCardSaid : Prop := Claim7.holds Tryd.pinned (.plain (OpenSpec.ofChange runsJoinedSpec)) runsJoinedCard

/-- THE TIED CARD OF 'groovelaw08.RunsChanges'. -/
def runsChangesCard : Claim7 := { stood := { row := runsChangesRow, standIns := [], harness := (true, "8d4ceed56f4770ccdb3d52124210d8ae45a682b8846cc13d6ad7e7d966f4350a"), looks := false }, kinds := [], alts := [], laidByText := true, laidKinds := [.data, .pinned], laidTests := true, laidLooks := .later }
def RunsChangesCardSaid : Prop := Claim7.holds Tryd.pinned (.plain (OpenSpec.ofChange runsChangesSpec)) runsChangesCard

/-- THE TIED CARD OF 'groovelaw08.RunsAdded'. -/
def runsAddedCard : Claim7 := { stood := { row := runsAddedRow, standIns := [], harness := (true, "8d4ceed56f4770ccdb3d52124210d8ae45a682b8846cc13d6ad7e7d966f4350a"), looks := false }, kinds := [], alts := [], laidByText := true, laidKinds := [.data, .pinned], laidTests := true, laidLooks := .later }
def RunsAddedCardSaid : Prop := Claim7.holds Tryd.pinned (.plain (OpenSpec.ofChange runsAddedSpec)) runsAddedCard

/-- THE TIED CARD OF 'groovelaw08.RunsReversed'. -/
def runsReversedCard : Claim7 := { stood := { row := runsReversedRow, standIns := [], harness := (true, "8d4ceed56f4770ccdb3d52124210d8ae45a682b8846cc13d6ad7e7d966f4350a"), looks := false }, kinds := [], alts := [], laidByText := true, laidKinds := [.data, .pinned], laidTests := true, laidLooks := .later }
def RunsReversedCardSaid : Prop := Claim7.holds Tryd.pinned (.plain (OpenSpec.ofChange runsReversedSpec)) runsReversedCard

/-- THE SECOND FORM's CARD OF 'groovelaw08.RunsSplits'. -/
def runsSplitsUptoCard : Claim7 := { stood := { row := runsSplitsUptoRow, standIns := [], harness := (true, "8d4ceed56f4770ccdb3d52124210d8ae45a682b8846cc13d6ad7e7d966f4350a"), looks := false }, kinds := [], alts := [], laidByText := true, laidKinds := [.data, .pinned], laidTests := true, laidLooks := .later }
def RunsSplitsUptoCardSaid : Prop := Claim7.holds Tryd.pinned (.plain (OpenSpec.upto runsSplitsSpec)) runsSplitsUptoCard

/-- THE SECOND FORM's CARD OF 'groovelaw08.RunsLevels'. -/
def runsLevelsUptoCard : Claim7 := { stood := { row := runsLevelsUptoRow, standIns := [], harness := (true, "8d4ceed56f4770ccdb3d52124210d8ae45a682b8846cc13d6ad7e7d966f4350a"), looks := false }, kinds := [], alts := [], laidByText := true, laidKinds := [.data, .pinned], laidTests := true, laidLooks := .later }
def RunsLevelsUptoCardSaid : Prop := Claim7.holds Tryd.pinned (.plain (OpenSpec.upto runsLevelsSpec)) runsLevelsUptoCard

/-- THE SECOND FORM's CARD OF 'groovelaw08.RunsCharges'. -/
def runsChargesUptoCard : Claim7 := { stood := { row := runsChargesUptoRow, standIns := [], harness := (true, "8d4ceed56f4770ccdb3d52124210d8ae45a682b8846cc13d6ad7e7d966f4350a"), looks := false }, kinds := [], alts := [], laidByText := true, laidKinds := [.data, .pinned], laidTests := true, laidLooks := .later }
def RunsChargesUptoCardSaid : Prop := Claim7.holds Tryd.pinned (.plain (OpenSpec.upto runsChargesSpec)) runsChargesUptoCard

/-- THE SECOND FORM's CARD OF 'groovelaw08.RunsJoined'. -/
def runsJoinedUptoCard : Claim7 := { stood := { row := runsJoinedUptoRow, standIns := [], harness := (true, "8d4ceed56f4770ccdb3d52124210d8ae45a682b8846cc13d6ad7e7d966f4350a"), looks := false }, kinds := [], alts := [], laidByText := true, laidKinds := [.data, .pinned], laidTests := true, laidLooks := .later }
def RunsJoinedUptoCardSaid : Prop := Claim7.holds Tryd.pinned (.plain (OpenSpec.upto runsJoinedSpec)) runsJoinedUptoCard

/-- THE SECOND FORM's CARD OF 'groovelaw08.RunsChanges'. -/
def runsChangesUptoCard : Claim7 := { stood := { row := runsChangesUptoRow, standIns := [], harness := (true, "8d4ceed56f4770ccdb3d52124210d8ae45a682b8846cc13d6ad7e7d966f4350a"), looks := false }, kinds := [], alts := [], laidByText := true, laidKinds := [.data, .pinned], laidTests := true, laidLooks := .later }
def RunsChangesUptoCardSaid : Prop := Claim7.holds Tryd.pinned (.plain (OpenSpec.upto runsChangesSpec)) runsChangesUptoCard

/-- THE SECOND FORM's CARD OF 'groovelaw08.RunsAdded'. -/
def runsAddedUptoCard : Claim7 := { stood := { row := runsAddedUptoRow, standIns := [], harness := (true, "8d4ceed56f4770ccdb3d52124210d8ae45a682b8846cc13d6ad7e7d966f4350a"), looks := false }, kinds := [], alts := [], laidByText := true, laidKinds := [.data, .pinned], laidTests := true, laidLooks := .later }
def RunsAddedUptoCardSaid : Prop := Claim7.holds Tryd.pinned (.plain (OpenSpec.upto runsAddedSpec)) runsAddedUptoCard

/-- THE SECOND FORM's CARD OF 'groovelaw08.RunsReversed'. -/
def runsReversedUptoCard : Claim7 := { stood := { row := runsReversedUptoRow, standIns := [], harness := (true, "8d4ceed56f4770ccdb3d52124210d8ae45a682b8846cc13d6ad7e7d966f4350a"), looks := false }, kinds := [], alts := [], laidByText := true, laidKinds := [.data, .pinned], laidTests := true, laidLooks := .later }
def RunsReversedUptoCardSaid : Prop := Claim7.holds Tryd.pinned (.plain (OpenSpec.upto runsReversedSpec)) runsReversedUptoCard
end Rows
end Go.Proofs.YtokpfbbhkmlclaaDoor

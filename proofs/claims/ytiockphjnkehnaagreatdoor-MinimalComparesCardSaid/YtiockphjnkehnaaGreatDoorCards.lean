/-
  DERIVED. GIVEN WITH THE SEED: THE CARDS: each row of YtiockphjnkehnaaGreatDoorRows.lean that lists a variable, with what it lists TIED to the program's text (the seventh form; the later family's looks); each row that meets fmt, with fmt's text TOLD by the authors' own Lean function (tested against real Go, not proved from fmt's source: count such statements apart). THE CARD IS WHAT COUNTS. Prove the row's statement (the work); the ties are given (YtiockphjnkehnaaGreatDoorTie.lean); close each card by the builder's one call (the guide's Derived/Test/ToyasCard.lean, 'card_holds'). Laid BY PROGRAM, IN A SANDBOX (cutbox-door.mjs). By AI agents, Wed Nov 11 2026. No macro, syntax, notation, axiom, sorry.
-/
import Derived.Test.YtiockphjnkehnaaGreatDoorRows
import GoSem.ClaimSeven
namespace Go.Proofs.YtiockphjnkehnaaGreatDoor
namespace Rows

/-- THE TIED CARD OF 'groovelaw13.MinimalCompares'. -/
def minimalComparesCard : Claim7 := { stood := { row := minimalComparesRow, standIns := [], harness := (true, "d1f7ea9ecd24ec0c8e3e3f9b0889dd85e60e1e0401ecb91e28eeb317c7ccc06c"), looks := false }, kinds := [], alts := [], laidByText := true, laidKinds := [.data], laidTests := true, laidLooks := .later }
def MinimalComparesCardSaid : Prop := Claim7.holds Tryz.pinned (.plain (OpenSpec.ofChange minimalComparesSpec)) minimalComparesCard

/-- THE SECOND FORM's CARD OF 'groovelaw13.MinimalCompares'. -/
def minimalComparesUptoCard : Claim7 := { stood := { row := minimalComparesUptoRow, standIns := [], harness := (true, "d1f7ea9ecd24ec0c8e3e3f9b0889dd85e60e1e0401ecb91e28eeb317c7ccc06c"), looks := false }, kinds := [], alts := [], laidByText := true, laidKinds := [.data], laidTests := true, laidLooks := .later }
def MinimalComparesUptoCardSaid : Prop := Claim7.holds Tryz.pinned (.plain (OpenSpec.upto minimalComparesSpec)) minimalComparesUptoCard
end Rows
end Go.Proofs.YtiockphjnkehnaaGreatDoor

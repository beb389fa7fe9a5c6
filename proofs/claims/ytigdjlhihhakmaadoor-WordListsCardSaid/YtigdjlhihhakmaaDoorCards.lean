/-
  DERIVED. GIVEN WITH THE SEED: THE CARDS: each row of YtigdjlhihhakmaaDoorRows.lean that lists a variable, with what it lists TIED to the program's text (the seventh form; the later family's looks); each row that meets fmt, with fmt's text TOLD by the authors' own Lean function (tested against real Go, not proved from fmt's source: count such statements apart). THE CARD IS WHAT COUNTS. Prove the row's statement (the work); the ties are given (YtigdjlhihhakmaaDoorTie.lean); close each card by the builder's one call (the guide's Derived/Test/ToyasCard.lean, 'card_holds'). Laid BY PROGRAM, IN A SANDBOX (cutbox-door.mjs). By AI agents, Wed Nov 11 2026. No macro, syntax, notation, axiom, sorry.
-/
import Derived.Test.YtigdjlhihhakmaaDoorRows
import GoSem.ClaimSeven
namespace Go.Proofs.YtigdjlhihhakmaaDoor
namespace Rows

/-- THE TIED CARD OF 'groovelaw07.WordLists'. -/
def wordListsCard : Claim7 := { stood := { row := wordListsRow, standIns := [], harness := (true, "f2e1930f0b31f4bb626e5520a096b7687d88f815497ef69ab2c6713ebe3dad60"), looks := false }, kinds := [], alts := [], laidByText := true, laidKinds := [.data, .pinned], laidTests := true, laidLooks := .later }
def WordListsCardSaid : Prop := Claim7.holds Tryd.pinned (.plain (OpenSpec.ofChange wordListsSpec)) wordListsCard

/-- THE TIED CARD OF 'groovelaw07.WordFactors'. -/
def wordFactorsCard : Claim7 := { stood := { row := wordFactorsRow, standIns := [], harness := (true, "f2e1930f0b31f4bb626e5520a096b7687d88f815497ef69ab2c6713ebe3dad60"), looks := false }, kinds := [], alts := [], laidByText := true, laidKinds := [.data, .pinned], laidTests := true, laidLooks := .later }
def WordFactorsCardSaid : Prop := Claim7.holds Tryd.pinned (.plain (OpenSpec.ofChange wordFactorsSpec)) wordFactorsCard

/-- THE TIED CARD OF 'groovelaw07.WordNext'. -/
def wordNextCard : Claim7 := { stood := { row := wordNextRow, standIns := [], harness := (true, "f2e1930f0b31f4bb626e5520a096b7687d88f815497ef69ab2c6713ebe3dad60"), looks := false }, kinds := [], alts := [], laidByText := true, laidKinds := [.data, .pinned], laidTests := true, laidLooks := .later }
def WordNextCardSaid : Prop := Claim7.holds Tryd.pinned (.plain (OpenSpec.ofChange wordNextSpec)) wordNextCard

/-- THE TIED CARD OF 'groovelaw07.WordFound'. -/
def wordFoundCard : Claim7 := { stood := { row := wordFoundRow, standIns := [], harness := (true, "f2e1930f0b31f4bb626e5520a096b7687d88f815497ef69ab2c6713ebe3dad60"), looks := false }, kinds := [], alts := [], laidByText := true, laidKinds := [.data, .pinned], laidTests := true, laidLooks := .later }
def WordFoundCardSaid : Prop := Claim7.holds Tryd.pinned (.plain (OpenSpec.ofChange wordFoundSpec)) wordFoundCard

/-- THE TIED CARD OF 'groovelaw07.WordBorders'. -/
def wordBordersCard : Claim7 := { stood := { row := wordBordersRow, standIns := [], harness := (true, "f2e1930f0b31f4bb626e5520a096b7687d88f815497ef69ab2c6713ebe3dad60"), looks := false }, kinds := [], alts := [], laidByText := true, laidKinds := [.data, .pinned], laidTests := true, laidLooks := .later }
def WordBordersCardSaid : Prop := Claim7.holds Tryd.pinned (.plain (OpenSpec.ofChange wordBordersSpec)) wordBordersCard

/-- THE TIED CARD OF 'groovelaw07.WordRoots'. -/
def wordRootsCard : Claim7 := { stood := { row := wordRootsRow, standIns := [], harness := (true, "f2e1930f0b31f4bb626e5520a096b7687d88f815497ef69ab2c6713ebe3dad60"), looks := false }, kinds := [], alts := [], laidByText := true, laidKinds := [.data, .pinned], laidTests := true, laidLooks := .later }
def WordRootsCardSaid : Prop := Claim7.holds Tryd.pinned (.plain (OpenSpec.ofChange wordRootsSpec)) wordRootsCard

/-- THE TIED CARD OF 'groovelaw07.WordReversed'. -/
def wordReversedCard : Claim7 := { stood := { row := wordReversedRow, standIns := [], harness := (true, "f2e1930f0b31f4bb626e5520a096b7687d88f815497ef69ab2c6713ebe3dad60"), looks := false }, kinds := [], alts := [], laidByText := true, laidKinds := [.data, .pinned], laidTests := true, laidLooks := .later }
def WordReversedCardSaid : Prop := Claim7.holds Tryd.pinned (.plain (OpenSpec.ofChange wordReversedSpec)) wordReversedCard

/-- THE SECOND FORM's CARD OF 'groovelaw07.WordLists'. -/
def wordListsUptoCard : Claim7 := { stood := { row := wordListsUptoRow, standIns := [], harness := (true, "f2e1930f0b31f4bb626e5520a096b7687d88f815497ef69ab2c6713ebe3dad60"), looks := false }, kinds := [], alts := [], laidByText := true, laidKinds := [.data, .pinned], laidTests := true, laidLooks := .later }
def WordListsUptoCardSaid : Prop := Claim7.holds Tryd.pinned (.plain (OpenSpec.upto wordListsSpec)) wordListsUptoCard

/-- THE SECOND FORM's CARD OF 'groovelaw07.WordFactors'. -/
def wordFactorsUptoCard : Claim7 := { stood := { row := wordFactorsUptoRow, standIns := [], harness := (true, "f2e1930f0b31f4bb626e5520a096b7687d88f815497ef69ab2c6713ebe3dad60"), looks := false }, kinds := [], alts := [], laidByText := true, laidKinds := [.data, .pinned], laidTests := true, laidLooks := .later }
def WordFactorsUptoCardSaid : Prop := Claim7.holds Tryd.pinned (.plain (OpenSpec.upto wordFactorsSpec)) wordFactorsUptoCard

/-- THE SECOND FORM's CARD OF 'groovelaw07.WordNext'. -/
def wordNextUptoCard : Claim7 := { stood := { row := wordNextUptoRow, standIns := [], harness := (true, "f2e1930f0b31f4bb626e5520a096b7687d88f815497ef69ab2c6713ebe3dad60"), looks := false }, kinds := [], alts := [], laidByText := true, laidKinds := [.data, .pinned], laidTests := true, laidLooks := .later }
def WordNextUptoCardSaid : Prop := Claim7.holds Tryd.pinned (.plain (OpenSpec.upto wordNextSpec)) wordNextUptoCard

/-- THE SECOND FORM's CARD OF 'groovelaw07.WordFound'. -/
def wordFoundUptoCard : Claim7 := { stood := { row := wordFoundUptoRow, standIns := [], harness := (true, "f2e1930f0b31f4bb626e5520a096b7687d88f815497ef69ab2c6713ebe3dad60"), looks := false }, kinds := [], alts := [], laidByText := true, laidKinds := [.data, .pinned], laidTests := true, laidLooks := .later }
def WordFoundUptoCardSaid : Prop := Claim7.holds Tryd.pinned (.plain (OpenSpec.upto wordFoundSpec)) wordFoundUptoCard

/-- THE SECOND FORM's CARD OF 'groovelaw07.WordBorders'. -/
def wordBordersUptoCard : Claim7 := { stood := { row := wordBordersUptoRow, standIns := [], harness := (true, "f2e1930f0b31f4bb626e5520a096b7687d88f815497ef69ab2c6713ebe3dad60"), looks := false }, kinds := [], alts := [], laidByText := true, laidKinds := [.data, .pinned], laidTests := true, laidLooks := .later }
def WordBordersUptoCardSaid : Prop := Claim7.holds Tryd.pinned (.plain (OpenSpec.upto wordBordersSpec)) wordBordersUptoCard

/-- THE SECOND FORM's CARD OF 'groovelaw07.WordRoots'. -/
def wordRootsUptoCard : Claim7 := { stood := { row := wordRootsUptoRow, standIns := [], harness := (true, "f2e1930f0b31f4bb626e5520a096b7687d88f815497ef69ab2c6713ebe3dad60"), looks := false }, kinds := [], alts := [], laidByText := true, laidKinds := [.data, .pinned], laidTests := true, laidLooks := .later }
def WordRootsUptoCardSaid : Prop := Claim7.holds Tryd.pinned (.plain (OpenSpec.upto wordRootsSpec)) wordRootsUptoCard

/-- THE SECOND FORM's CARD OF 'groovelaw07.WordReversed'. -/
def wordReversedUptoCard : Claim7 := { stood := { row := wordReversedUptoRow, standIns := [], harness := (true, "f2e1930f0b31f4bb626e5520a096b7687d88f815497ef69ab2c6713ebe3dad60"), looks := false }, kinds := [], alts := [], laidByText := true, laidKinds := [.data, .pinned], laidTests := true, laidLooks := .later }
def WordReversedUptoCardSaid : Prop := Claim7.holds Tryd.pinned (.plain (OpenSpec.upto wordReversedSpec)) wordReversedUptoCard
end Rows
end Go.Proofs.YtigdjlhihhakmaaDoor

/- For layer 12's cards: the listed tables, a world that holds them, and what a law asks of them. No condition. -/
import Derived.Test.YtblkijdodojaeaaDoorCards
import Derived.Test.YtblkijdodojaeaaDoorTie
import Derived.Test.YtblkijdodojaeaaDoorQ25
import Derived.Test.YtblkijdodojaeaaDoorQ11
import Derived.Lib.LaidTab
import Derived.Stop.LaidErr
import Derived.Lib.SmallJoins

namespace Go.Proofs.YtblkijdodojaeaaDoor
open Go.ChangeShapes Go.WideShapes Go.ChangeAt Go.RowKit

/-- The variables that the rows list. -/
abbrev restN : List (String × DataW Unit) := [("unicode/utf8.acceptRanges", Rows.laid_unicode_utf8_acceptRanges), ("unicode/utf8.first", Rows.laid_unicode_utf8_first)]
def lstN : List (String × DataW Unit) := [("math/bits.deBruijn64tab", Rows.laid_math_bits_deBruijn64tab), ("unicode/utf8.acceptRanges", Rows.laid_unicode_utf8_acceptRanges), ("unicode/utf8.first", Rows.laid_unicode_utf8_first)]
theorem lstN_met {W : World} (h : laidMetH Tryd.prog lstN W) : laidMet Tryd.prog lstN W := h
theorem gDeb : Tryd.prog.globalNamed "math/bits.deBruijn64tab" = some 0 := by kernel_rfl
theorem gDebType : (Tryd.prog.globals[0]?).map (·.type) = some 191 := by kernel_rfl
theorem cellsDeb : Tryd.prog.cellsOf 191 = 64 := by kernel_rfl
theorem cellsU8n : Tryd.prog.cellsOf 5 = 1 := by kernel_rfl
abbrev debZ : List Int := Lib.deBruijn64tab.map fun (n : Nat) => (n : Int)
theorem tabDeb {W : World} (h : laidMetH Tryd.prog lstN W) : Lib.TabIs Tryd.prog W "math/bits.deBruijn64tab" .u8 debZ :=
  Lib.tabIs_of_head (zs := debZ) (rest := restN) gDeb gDebType Tryd.underlying191 Tryd.underlying5 cellsU8n cellsDeb (lstN_met h)
theorem tabD_laid {W : World} (h : laidMetH Tryd.prog lstN W) : TabD W := fun j hj => by
  have h1 := (tabDeb h).cell gDeb j (by rw [List.length_map]; exact hj)
  rw [h1]
  have h2 : debZ[j]? = some ((Lib.deBruijn64tab.getD j 0 : Nat) : Int) := by
    rw [List.getElem?_map, List.getD_eq_getElem?_getD, List.getElem?_eq_getElem hj]; rfl
  first
    | (rw [List.getD_eq_getElem?_getD, h2]; rfl)
    | (rw [h2]; rfl)
    | simp [h2]
/-- The cells of a table of integers, or of structs of integers. -/
def litCellsN : DataW Unit → List Value
  | .lit (.int k n) => [.int k n]
  | _ => []
def rowCellsN : DataW Unit → List Value
  | .agg ps => ps.flatMap litCellsN
  | d => litCellsN d
def tabCellsN : DataW Unit → List Value
  | .agg ps => ps.flatMap rowCellsN
  | d => litCellsN d
def layAtN (g : Nat) (cs : List Value) (h : Array Obj) : Array Obj := h.modify g fun
  | .cells _ t fr => .cells cs.toArray t fr
  | o => o
/-- A world that holds the tables. -/
noncomputable def laidWorldN (os : Os) : World :=
  { World.holding Tryd.prog os ⟨#[], #[], []⟩ with heap := (layAtN 0 (tabCellsN Rows.laid_math_bits_deBruijn64tab) (layAtN 2 (tabCellsN Rows.laid_unicode_utf8_acceptRanges) (layAtN 1 (tabCellsN Rows.laid_unicode_utf8_first) (World.holding Tryd.prog os ⟨#[], #[], []⟩).heap))) }
set_option maxRecDepth 100000 in
theorem laid_metN (os : Os) (args : Array Value) : laidMet Tryd.prog lstN ((laidWorldN os).forCall (fun _ _ => 0) ⟨#[], args, []⟩).memory :=
  laidMet_of_run' 8 (by kernel_rfl) (by kernel_rfl)
end Go.Proofs.YtblkijdodojaeaaDoor

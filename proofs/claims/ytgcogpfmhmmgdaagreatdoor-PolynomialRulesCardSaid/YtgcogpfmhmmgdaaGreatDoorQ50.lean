/- What the laws' rows and cards share: the tables, a world that holds them, and integers among the arguments. No condition. -/
import Derived.Test.YtgcogpfmhmmgdaaGreatDoorCards
import Derived.Test.YtgcogpfmhmmgdaaGreatDoorTie
import Derived.WalkKit
import Derived.ProofKit
import Derived.OpenShut
import Derived.Deep.DeepHandedRow
import Derived.Lib.LaidTab
import Derived.Lib.ItoaNum
import Derived.Stop.LaidErr
import Derived.Below
import Derived.Lib.SmallJoins

namespace Go.Proofs.YtgcogpfmhmmgdaaGreatDoor
open Go.ChangeShapes Go.WideShapes Go.ChangeAt Go.RowKit
open Go.ChangeMaps (open_string shut_string)

theorem ownNone : ownKnob Tryz.prog.godebug = none := by kernel_rfl
theorem gPow : Tryz.prog.globalNamed "internal/strconv.uint64pow10" = some 0 := by kernel_rfl
theorem gPowType : (Tryz.prog.globals[0]?).map (·.type) = some 167 := by kernel_rfl
theorem cellsPow : Tryz.prog.cellsOf 167 = 20 := by kernel_rfl
theorem cellsU64 : Tryz.prog.cellsOf 91 = 1 := by kernel_rfl
theorem cellsInt : Tryz.prog.cellsOf 27 = 2 := by kernel_rfl

/-- The variables that the rows list. -/
def lst : List (String × DataW Unit) := [("math/bits.deBruijn32tab", Rows.laid_math_bits_deBruijn32tab), ("math/bits.deBruijn64tab", Rows.laid_math_bits_deBruijn64tab), ("internal/strconv.uint64pow10", Rows.laid_internal_strconv_uint64pow10), ("unicode/utf8.acceptRanges", Rows.laid_unicode_utf8_acceptRanges), ("unicode/utf8.first", Rows.laid_unicode_utf8_first)]
theorem lst_met {W : World} (h : laidMetH Tryz.prog lst W) : laidMet Tryz.prog lst W := h
theorem tabPow {W : World} (h : laidMetH Tryz.prog lst W) : Lib.TabIs Tryz.prog W "internal/strconv.uint64pow10" .u64 Lib.pow10Tab :=
  Lib.tabIs_of_head (zs := Lib.pow10Tab) (rest := [("unicode/utf8.acceptRanges", Rows.laid_unicode_utf8_acceptRanges), ("unicode/utf8.first", Rows.laid_unicode_utf8_first)]) gPow gPowType Tryz.underlying167 Tryz.underlying91 cellsU64 cellsPow (lst_met h).tail.tail

/-- The cells of a table of integers, or of structs of integers. -/
def litCells : DataW Unit → List Value
  | .lit (.int k n) => [.int k n]
  | _ => []
def rowCells : DataW Unit → List Value
  | .agg ps => ps.flatMap litCells
  | d => litCells d
def tabCells : DataW Unit → List Value
  | .agg ps => ps.flatMap rowCells
  | d => litCells d
def layAt (g : Nat) (cs : List Value) (h : Array Obj) : Array Obj := h.modify g fun
  | .cells _ t fr => .cells cs.toArray t fr
  | o => o
/-- A world that holds the tables. -/
noncomputable def laidWorld (os : Os) : World :=
  { World.holding Tryz.prog os ⟨#[], #[], []⟩ with heap := (layAt 4 (tabCells Rows.laid_math_bits_deBruijn32tab) (layAt 5 (tabCells Rows.laid_math_bits_deBruijn64tab) (layAt 0 (tabCells Rows.laid_internal_strconv_uint64pow10)
        (layAt 2 (tabCells Rows.laid_unicode_utf8_acceptRanges) (layAt 1 (tabCells Rows.laid_unicode_utf8_first) (World.holding Tryz.prog os ⟨#[], #[], []⟩).heap))))) }
set_option maxRecDepth 100000 in
theorem laid_met (os : Os) (args : Array Value) : laidMet Tryz.prog lst ((laidWorld os).forCall (fun _ _ => 0) ⟨#[], args, []⟩).memory :=
  laidMet_of_run' 8 (by kernel_rfl) (by kernel_rfl)

set_option maxRecDepth 100000 in
/-- An integer that was handed in, opened. -/
theorem int_open {H : Type} {enc : TypeId × Value → H} {w : World} {base b0 : Nat} {sp : Nat → Bool} {held : Bool} {r : Reach} {v : Value} {d : DataW H} {p : List MemPlace}
    (hv : Value.okWide Tryz.prog w r b0 27 v) (h : DataW.Trod enc Tryz.prog w base sp held 27 v d p) :
    ∃ (ng : Bool) (s : ByteArray), v = .agg #[.bool ng, .string s] ∧ d = .agg [.lit (.bool ng), .lit (.string s.data.toList)] ∧ p = [] ∧ s.size ≤ maxLen := by
  obtain ⟨c0, c1, y0, y1, m, rfl, rfl, rfl, hy0, hy1⟩ := Joins.open_agg2 Tryz.underlying27 (by kernel_rfl) cellsInt hv h
  obtain ⟨g, e0, rfl⟩ := DataW.trod_bool Tryz.underlying4 hy0
  obtain ⟨s, e1, rfl, hs⟩ := DataW.trod_string Tryz.underlying9 hy1
  simp at e0 e1
  subst e0 e1
  exact ⟨g, s, rfl, rfl, rfl, hs⟩
theorem int_shut {H : Type} {enc : TypeId × Value → H} {w : World} {base : Nat} {sp : Nat → Bool} {held : Bool} {ng : Bool} {s : ByteArray} (hs : s.size ≤ maxLen) :
    DataW.Trod enc Tryz.prog w base sp held 27 (.agg #[.bool ng, .string s]) (.agg [.lit (.bool ng), .lit (.string s.data.toList)]) [] :=
  Joins.shut_agg2 (y0 := (.lit (.bool ng), [])) (y1 := (.lit (.string s.data.toList), [])) Tryz.underlying27 (by kernel_rfl) cellsInt (shut_bool Tryz.underlying4 ng) (shut_string Tryz.underlying9 hs)
/-- No parameter of these types wants a stand-in. -/
theorem noStand : Tryz.prog.wantsStandIn 27 = false ∧ Tryz.prog.wantsStandIn 9 = false ∧ Tryz.prog.wantsStandIn 21 = false ∧ Tryz.prog.wantsStandIn 3 = false ∧ Tryz.prog.wantsStandIn 5 = false := by
  refine ⟨?_, ?_, ?_, ?_, ?_⟩ <;> kernel_rfl
end Go.Proofs.YtgcogpfmhmmgdaaGreatDoor

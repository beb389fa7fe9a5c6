/- Lists of ints among a law's arguments, opened. No condition. For layer 12's cards: the listed tables, a world that holds them, and what a law asks of them. No condition. -/
import Derived.Test.YthhbbiafffpknaaDoorQ22
import Derived.ChangeSlices
import Derived.Test.YthhbbiafffpknaaDoorCards
import Derived.Test.YthhbbiafffpknaaDoorTie
import Derived.Test.YthhbbiafffpknaaDoorQ09
import Derived.Lib.LaidTab
import Derived.Stop.LaidErr
import Derived.Lib.SmallJoins

namespace Go.Proofs.YthhbbiafffpknaaDoor
open Go.ChangeShapes Go.WideShapes Go.ChangeAt Go.RowKit Go.Deep
set_option maxRecDepth 100000

theorem ints_open {H : Type} {enc : TypeId × Value → H} {W : World} {v : Value} {d : DataW H} {p : List MemPlace} (hv : Value.okWide Tryd.prog W .any 0 25 v)
    (h : DataW.Trod enc Tryd.prog W 0 (fun _ => true) true 25 v d p) : ∃ l, IntsRd W v l ∧ l.length ≤ 9223372036854775807 := by
  obtain ⟨a0, len0, cap0, rfl⟩ := okWide_slice Tryd.underlying25 hv
  obtain ⟨fuel, hf⟩ := h
  rcases Go.ChangeShapes.open_ints Tryd.underlying25 Tryd.underlying3 cellI hf with ⟨hc, -⟩ | ⟨a, len, cap, zs, hc, -, hl, hm, hz, -, hall, -⟩
  · simp [Value.cells] at hc
    obtain ⟨rfl, rfl, rfl⟩ := hc
    exact ⟨[], ⟨none, 0, rfl, fun i x hx => by cases hx⟩, Nat.zero_le _⟩
  · simp [Value.cells] at hc
    obtain ⟨rfl, rfl, rfl⟩ := hc
    simp only [if_true] at hz
    have hcap : cap0 ≤ 9223372036854775807 := by unfold maxLen at hm; exact hm
    have hlt : (zs.take len0).length = len0 := by rw [List.length_take]; omega
    refine ⟨zs.take len0, ⟨some a, cap0, by rw [hlt], fun i x hx => ?_⟩, by rw [hlt]; omega⟩
    have hi : i < len0 := by
      have := (List.getElem?_eq_some_iff.1 hx).1
      rwa [hlt] at this
    rw [List.getElem?_take_of_lt hi] at hx
    have hsp := World.cell?_spot (hall 0 (by omega))
    obtain ⟨ab, ao, sp⟩ := a
    obtain rfl : sp = none := by simpa [Addr.add] using hsp
    have h1 := hall i (by omega)
    rw [add_plain] at h1
    refine ⟨ab, ao, rfl, ?_⟩
    rw [h1, List.getD_eq_getElem?_getD, hx]
    rfl
theorem ints_keep {H : Type} {enc : TypeId × Value → H} {W W' : World} {v : Value} {d : DataW H} {p : List MemPlace} (h : DataW.Trod enc Tryd.prog W 0 (fun _ => true) true 25 v d p) (hb : Below W.heap.size W W') (hlt : ∀ x ∈ p, x.block < W.heap.size) :
    DataW.Trod enc Tryd.prog W' 0 (fun b => decide (b < W.heap.size)) true 25 v d p :=
  Below.trod Tryd.laidOut (by kernel_rfl) (of_decide_eq_true (by kernel_rfl)) h hb hlt
end Go.Proofs.YthhbbiafffpknaaDoor

namespace Go.Proofs.YthhbbiafffpknaaDoor
open Go.ChangeShapes Go.WideShapes Go.ChangeAt Go.RowKit

/-- The variables that the rows list. -/
abbrev restN : List (String × DataW Unit) := [("unicode/utf8.acceptRanges", Rows.laid_unicode_utf8_acceptRanges), ("unicode/utf8.first", Rows.laid_unicode_utf8_first)]
def lstN : List (String × DataW Unit) := [("math/bits.deBruijn64tab", Rows.laid_math_bits_deBruijn64tab), ("unicode/utf8.acceptRanges", Rows.laid_unicode_utf8_acceptRanges), ("unicode/utf8.first", Rows.laid_unicode_utf8_first)]
theorem lstN_met {W : World} (h : laidMetH Tryd.prog lstN W) : laidMet Tryd.prog lstN W := h
theorem gDeb : Tryd.prog.globalNamed "math/bits.deBruijn64tab" = some 0 := by kernel_rfl
theorem gDebType : (Tryd.prog.globals[0]?).map (·.type) = some 127 := by kernel_rfl
theorem cellsDeb : Tryd.prog.cellsOf 127 = 64 := by kernel_rfl
theorem cellsU8n : Tryd.prog.cellsOf 5 = 1 := by kernel_rfl
abbrev debZ : List Int := Lib.deBruijn64tab.map fun (n : Nat) => (n : Int)
theorem tabDeb {W : World} (h : laidMetH Tryd.prog lstN W) : Lib.TabIs Tryd.prog W "math/bits.deBruijn64tab" .u8 debZ :=
  Lib.tabIs_of_head (zs := debZ) (rest := restN) gDeb gDebType Tryd.underlying127 Tryd.underlying5 cellsU8n cellsDeb (lstN_met h)
theorem tabD_laid {W : World} (h : laidMetH Tryd.prog lstN W) : TabD W := fun j hj => by
  have h1 := (tabDeb h).cell gDeb j (by rw [List.length_map]; exact hj)
  rw [h1]
  have h2 : debZ[j]? = some ((Lib.deBruijn64tab.getD j 0 : Nat) : Int) := by
    rw [List.getElem?_map, List.getD_eq_getElem?_getD, List.getElem?_eq_getElem hj]; rfl
  first
    | (rw [List.getD_eq_getElem?_getD, h2]; rfl)
    | (rw [h2]; rfl)
    | simp [h2]
/-- The cells of a table of integers, or of structs of integers. -/
def litCellsN : DataW Unit → List Value
  | .lit (.int k n) => [.int k n]
  | _ => []
def rowCellsN : DataW Unit → List Value
  | .agg ps => ps.flatMap litCellsN
  | d => litCellsN d
def tabCellsN : DataW Unit → List Value
  | .agg ps => ps.flatMap rowCellsN
  | d => litCellsN d
def layAtN (g : Nat) (cs : List Value) (h : Array Obj) : Array Obj := h.modify g fun
  | .cells _ t fr => .cells cs.toArray t fr
  | o => o
/-- A world that holds the tables. -/
noncomputable def laidWorldN (os : Os) : World :=
  { World.holding Tryd.prog os ⟨#[], #[], []⟩ with heap := (layAtN 0 (tabCellsN Rows.laid_math_bits_deBruijn64tab) (layAtN 2 (tabCellsN Rows.laid_unicode_utf8_acceptRanges) (layAtN 1 (tabCellsN Rows.laid_unicode_utf8_first) (World.holding Tryd.prog os ⟨#[], #[], []⟩).heap))) }
set_option maxRecDepth 100000 in
theorem laid_metN (os : Os) (args : Array Value) : laidMet Tryd.prog lstN ((laidWorldN os).forCall (fun _ _ => 0) ⟨#[], args, []⟩).memory :=
  laidMet_of_run' 8 (by kernel_rfl) (by kernel_rfl)
end Go.Proofs.YthhbbiafffpknaaDoor

/- Integers in cells, and how they are compared as values of the program. No condition. -/
import Derived.Test.YtcljkdninmldiaaGreatDoorQ24
import Derived.Deep.DeepCutAuto

namespace Go.Proofs.YtcljkdninmldiaaGreatDoor
open Go.RowKit

theorem isInt_of {z : Int} {k : Nat} (h : z.natAbs < 4294967296 ^ k) (hk : k ≤ 10000000) : IsInt (.agg #[.bool (sg z), .string (mg z)]) z k := isInt_mg h hk
/-- An integer's cells. -/
def IntAt (W : World) (b : Nat) (z : Int) : Prop := W.cell? ⟨b, 0, none⟩ = some (.bool (sg z)) ∧ W.cell? ⟨b, 1, none⟩ = some (.string (mg z))
theorem IntAt.keep {W W1 : World} {b : Nat} {z : Int} (h : IntAt W b z) (hb : Below W.heap.size W W1) : IntAt W1 b z := ⟨cell_keep h.1 hb, cell_keep h.2 hb⟩
theorem IntAt.new (W : World) (t : TypeId) (z : Int) : IntAt (W.alloc (.cells #[.bool (sg z), .string (mg z)] t)) W.heap.size z := by
  constructor <;> simp [go_sem]

theorem guardInt2 (x y : Operand) (a b : Bool) (s t : ByteArray) (w : World) : (eqGuard .eql 23 x y (.agg #[.bool a, .string s]) (.agg #[.bool b, .string t])).run Tryz.prog w = .ok () w := run_eqGuard_agg w .eql 23 x y _ _ (by kernel_rfl)
attribute [go_sem ↓] eqlInt guardInt2
end Go.Proofs.YtcljkdninmldiaaGreatDoor

/- What the laws' Great returns. -/
import Derived.Test.YtmdkkeklihfdgaaGreatDoorInt
namespace Go.Proofs.YtmdkkeklihfdgaaGreatDoor
open Go.RowKit

theorem great_int (na : Bool) (sa : ByteArray) (w : World) (hs : sa.size ≤ 9223372036854775807) :
    Calls Tryz.prog 18 #[.agg #[.bool na, .string sa]] w fun e w' => e = .returned (.bool (decide (60 < sa.size))) ∧ Below w.heap.size w w' := by
  have hb := below1 w (.cells #[.bool na, .string sa] 23)
  have hd : (decide ((60 : Int) < (sa.size : Int))) = decide (60 < sa.size) := decide_eq_decide.2 (by omega)
  go_enter Tryz.func18, Tryz.ntmps18
  go_wp2
  go_ret
  exact ⟨rfl, hb⟩
end Go.Proofs.YtmdkkeklihfdgaaGreatDoor

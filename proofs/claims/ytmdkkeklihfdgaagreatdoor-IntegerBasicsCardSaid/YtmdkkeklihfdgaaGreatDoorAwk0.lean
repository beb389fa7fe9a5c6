/- Closed values that awake compares. -/
import Derived.Test.YtmdkkeklihfdgaaGreatDoorPrint
import Derived.Test.YtmdkkeklihfdgaaGreatDoorIchk
namespace Go.Proofs.YtmdkkeklihfdgaaGreatDoor
open Go.RowKit

theorem gs_two64 : gs 18446744073709551616 = [709551616, 446744073, 18] := by
  rw [gs_pos (by omega), gs_pos (by omega), gs_pos (by omega), gs_zero]

theorem two64_text : (⟨(prZ 18446744073709551616).toArray⟩ : ByteArray) = ⟨#[49, 56, 52, 52, 54, 55, 52, 52, 48, 55, 51, 55, 48, 57, 53, 53, 49, 54, 49, 54]⟩ := by
  have h0 : prZ 18446744073709551616 = prS [709551616, 446744073, 18] := by
    unfold prZ
    rw [if_neg (by decide)]
    show sgnT (sg 18446744073709551616) ++ prS (gs 18446744073709551616) = _
    rw [gs_two64]
    rfl
  rw [h0]
  simp [prS, pad9, Lib.decDigits, Lib.repeatL]

theorem eqlInt (a b : Bool) (s t : ByteArray) (w : World) : (binOp .eql 23 (.agg #[.bool a, .string s]) (.agg #[.bool b, .string t])).run Tryz.prog w = .ok (.bool (a == b && s.toList == t.toList)) w := by
  rw [run_eql_struct, run_equalIn_agg w 9999 23 _ _ (by kernel_rfl) (by kernel_rfl), Tryz.fieldsInt]
  simp only [Op.eqFields]
  rw [if_pos (by decide)]
  rw [if_pos (by decide)]
  simp only [Sem.run_bind, part0, eq0, Result.andThen]
  cases a == b
  · rfl
  · simp only [Bool.not_true, Bool.true_and, if_neg (show ¬ (false = true) by decide), Sem.run_bind, part1, eq1, Result.andThen]
    cases s.toList == t.toList <;> rfl
end Go.Proofs.YtmdkkeklihfdgaaGreatDoor

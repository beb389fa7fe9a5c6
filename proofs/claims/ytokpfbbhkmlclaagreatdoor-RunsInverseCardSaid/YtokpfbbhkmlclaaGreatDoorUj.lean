/- What the reference implementation's Great returns. Condition: a string's length. -/
import Derived.Test.YtokpfbbhkmlclaaGreatDoorUh
namespace Go.Proofs.YtokpfbbhkmlclaaGreatDoor
open Go.RowKit
set_option linter.unusedSimpArgs false
set_option linter.unusedVariables false

theorem refGreat_small (l : List UInt8) (w : World) (hl : l.length ≤ 60 ∨ (65536 < l.length ∧ l.length ≤ 65544)) :
    Calls Tryz.prog 4 #[.string ⟨l.toArray⟩] w fun e w' => e = .returned (.bool false) ∧ w' = w := by
  rcases hl with h | ⟨h1, h2⟩
  · have d1 : decide ((65544 : Int) < (l.length : Int)) = false := decide_eq_false (by omega)
    have d2 : decide ((60 : Int) < (l.length : Int)) = false := decide_eq_false (by omega)
    go_enter Tryz.func4, Tryz.ntmps4
    go_wp2
    go_ret
    exact ⟨rfl, rfl⟩
  · have d1 : decide ((65544 : Int) < (l.length : Int)) = false := decide_eq_false (by omega)
    have d2 : decide ((l.length : Int) ≤ 65536) = false := decide_eq_false (by omega)
    have d3 : decide ((60 : Int) < (l.length : Int)) = true := decide_eq_true (by omega)
    go_enter Tryz.func4, Tryz.ntmps4
    go_wp2
    go_ret
    exact ⟨rfl, rfl⟩
theorem refGreat_great (l : List UInt8) (w : World) (hl : (60 < l.length ∧ l.length ≤ 65536) ∨ (65544 < l.length ∧ l.length ≤ 9223372036854775807)) :
    Calls Tryz.prog 4 #[.string ⟨l.toArray⟩] w fun e w' => e = .returned (.bool true) ∧ w' = w := by
  rcases hl with ⟨h1, h2⟩ | ⟨h1, h2⟩
  · have d1 : decide ((65544 : Int) < (l.length : Int)) = false := decide_eq_false (by omega)
    have d2 : decide ((l.length : Int) ≤ 65536) = true := decide_eq_true (by omega)
    have d3 : decide ((60 : Int) < (l.length : Int)) = true := decide_eq_true (by omega)
    go_enter Tryz.func4, Tryz.ntmps4
    go_wp2
    go_ret
    exact ⟨rfl, rfl⟩
  · have d1 : decide ((65544 : Int) < (l.length : Int)) = true := decide_eq_true (by omega)
    have d2 : decide ((l.length : Int) ≤ 65536) = false := decide_eq_false (by omega)
    have d3 : decide ((60 : Int) < (l.length : Int)) = true := decide_eq_true (by omega)
    go_enter Tryz.func4, Tryz.ntmps4
    go_wp2
    go_ret
    exact ⟨rfl, rfl⟩
/-- What a law examines: up to 60 letters, or too many. -/
theorem small_or (n : Nat) (h : n ≤ 9223372036854775807) : (n ≤ 60 ∨ (65536 < n ∧ n ≤ 65544)) ∨ ((60 < n ∧ n ≤ 65536) ∨ (65544 < n ∧ n ≤ 9223372036854775807)) := by omega
end Go.Proofs.YtokpfbbhkmlclaaGreatDoor

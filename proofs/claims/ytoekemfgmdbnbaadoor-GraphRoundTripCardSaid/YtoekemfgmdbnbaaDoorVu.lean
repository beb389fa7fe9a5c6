/- What grooveref09.Great and groovelaw09.fine return. No condition but that the edges can be read. -/
import Derived.Test.YtoekemfgmdbnbaaDoorVt
namespace Go.Proofs.YtoekemfgmdbnbaaDoor
open Go.RowKit
set_option linter.unusedSimpArgs false
set_option linter.unusedVariables false

/-- Larger than the laws examine. -/
def greatB (S : Int) (k : Nat) : Bool := decide (30 < k ∨ (10 < S ∧ S ≤ 64))
theorem great_any (L S : Int) (a : Option Addr) (k c : Nat) (w : World) :
    Calls Tryd.prog 4 #[grV L S (.slice a k c)] w fun e w' => e = .returned (.bool (greatB S k)) ∧ Below w.heap.size w w' := by
  by_cases h1 : 30 < k
  · have HE := Lib.hid (show greatB S k = true from decide_eq_true (.inl h1))
    have d1 : decide ((30 : Int) < (k : Int)) = true := decide_eq_true (by omega)
    have d1' : decide (30 < k) = true := decide_eq_true h1
    clear h1
    go_enter Tryd.func4, Tryd.ntmps4
    go_wp2_with fail
    go_ret
    exact ⟨by rw [HE.out]; rfl, below1 w _⟩
  have d1 : decide ((30 : Int) < (k : Int)) = false := decide_eq_false (by omega)
  have d1' : decide (30 < k) = false := decide_eq_false h1
  by_cases h2 : 10 < S
  · have d2 : decide (10 < S) = true := decide_eq_true h2
    by_cases h3 : S ≤ 64
    · have HE := Lib.hid (show greatB S k = true from decide_eq_true (.inr ⟨h2, h3⟩))
      have d3 : decide (S ≤ 64) = true := decide_eq_true h3
      clear h1 h2 h3
      go_enter Tryd.func4, Tryd.ntmps4
      go_wp2_with fail
      go_ret
      exact ⟨by rw [HE.out]; rfl, below1 w _⟩
    · have HE := Lib.hid (show greatB S k = false from decide_eq_false (by omega))
      have d3 : decide (S ≤ 64) = false := decide_eq_false h3
      clear h1 h2 h3
      go_enter Tryd.func4, Tryd.ntmps4
      go_wp2_with fail
      go_ret
      exact ⟨by rw [HE.out]; rfl, below1 w _⟩
  · have HE := Lib.hid (show greatB S k = false from decide_eq_false (by omega))
    have d2 : decide (10 < S) = false := decide_eq_false h2
    clear h1 h2
    go_enter Tryd.func4, Tryd.ntmps4
    go_wp2_with fail
    go_ret
    exact ⟨by rw [HE.out]; rfl, below1 w _⟩
/-- Valid, and not larger than the laws examine. -/
def fineB (L S : Int) (es : List E3) : Bool := !greatB S es.length && chkG L S es == 0
end Go.Proofs.YtoekemfgmdbnbaaDoor

/- What grooveref09.Great and groovelaw09.fine return. No condition but that the edges can be read. -/
import Derived.Test.YtfkplnmhlpabaaaVt
namespace Go.Proofs.Ytfkplnmhlpabaaa
open Go.RowKit
set_option linter.unusedSimpArgs false
set_option linter.unusedVariables false

/-- Larger than the laws examine. -/
def greatB (S : Int) (k : Nat) : Bool := decide (30 < k ∨ (10 < S ∧ S ≤ 64))
/-- Valid, and not larger than the laws examine. -/
def fineB (L S : Int) (es : List E3) : Bool := !greatB S es.length && chkG L S es == 0
end Go.Proofs.Ytfkplnmhlpabaaa

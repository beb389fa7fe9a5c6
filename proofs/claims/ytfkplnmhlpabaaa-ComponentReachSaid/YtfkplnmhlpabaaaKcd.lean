/- What rows without listed variables share. No condition. -/
import Derived.Test.YtfkplnmhlpabaaaRows
import Derived.WalkKit
import Derived.ProofKit
import Derived.OpenShut
import Derived.Deep.DeepHandedRow
import Derived.Below
import Derived.Lib.SmallJoins
namespace Go.Proofs.Ytfkplnmhlpabaaa
open Go.ChangeShapes Go.WideShapes Go.ChangeAt Go.RowKit

theorem ownNone : ownKnob Try.prog.godebug = none := by kernel_rfl
end Go.Proofs.Ytfkplnmhlpabaaa

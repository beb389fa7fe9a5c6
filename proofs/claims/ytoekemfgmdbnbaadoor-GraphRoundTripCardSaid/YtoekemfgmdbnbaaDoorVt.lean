/- What grooveref09.Check, grooveref09.Great and groovelaw09.fine return. No condition but that the edges can be read. -/
import Derived.Test.YtoekemfgmdbnbaaDoorVs
namespace Go.Proofs.YtoekemfgmdbnbaaDoor
open Go.RowKit
set_option linter.unusedSimpArgs false
set_option linter.unusedVariables false

end Go.Proofs.YtoekemfgmdbnbaaDoor

/- Walks: a point read of four bytes by the model. -/
import Derived.Test.YtnhemiaklkkilaaDoorCurveS2
namespace Go.Proofs.YtnhemiaklkkilaaDoor
set_option linter.unusedVariables false
set_option linter.unusedSimpArgs false
open Go.RowKit Go.Sort

end Go.Proofs.YtnhemiaklkkilaaDoor

/- Walks: CurveOk of the program. -/
import Derived.Test.YtejlgcnhfomadabDoorGroPt
import Derived.Test.YtejlgcnhfomadabDoorFaceGPt
namespace Go.Proofs.YtejlgcnhfomadabDoor
set_option linter.unusedVariables false
open Go.RowKit

end Go.Proofs.YtejlgcnhfomadabDoor

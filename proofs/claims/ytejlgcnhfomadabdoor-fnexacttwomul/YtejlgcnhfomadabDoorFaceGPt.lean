/- Walks: the face of the program: what recovers, answered, at groups of impl.Point. -/
import Derived.Test.YtejlgcnhfomadabDoorFace0
import Derived.Test.YtejlgcnhfomadabDoorCurveM
namespace Go.Proofs.YtejlgcnhfomadabDoor
set_option linter.unusedVariables false
open Go.RowKit

end Go.Proofs.YtejlgcnhfomadabDoor

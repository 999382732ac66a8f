/- Walks: curves of the program: add. -/
import Derived.Test.YtejlgcnhfomadacDoorCurveL
namespace Go.Proofs.YtejlgcnhfomadacDoor
set_option linter.unusedVariables false
open Go.RowKit

end Go.Proofs.YtejlgcnhfomadacDoor

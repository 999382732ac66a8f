/- Walks: EdOk of the program. -/
import Derived.Test.YtejlgcnhfomadacDoorGroPr
import Derived.Test.YtejlgcnhfomadacDoorFaceGPr
namespace Go.Proofs.YtejlgcnhfomadacDoor
set_option linter.unusedVariables false
open Go.RowKit

end Go.Proofs.YtejlgcnhfomadacDoor

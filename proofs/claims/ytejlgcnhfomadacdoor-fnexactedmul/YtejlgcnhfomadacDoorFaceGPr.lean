/- Walks: the face of the program: what recovers, answered, at groups of impl.Pair. -/
import Derived.Test.YtejlgcnhfomadacDoorFace0
import Derived.Test.YtejlgcnhfomadacDoorEdM
namespace Go.Proofs.YtejlgcnhfomadacDoor
set_option linter.unusedVariables false
open Go.RowKit

end Go.Proofs.YtejlgcnhfomadacDoor

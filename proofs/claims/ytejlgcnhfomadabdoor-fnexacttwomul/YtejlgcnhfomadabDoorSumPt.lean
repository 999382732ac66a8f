/- Walks: the group of a curve of the program (impl.Point): sum. -/
import Derived.Test.YtejlgcnhfomadabDoorGroPt
namespace Go.Proofs.YtejlgcnhfomadabDoor
set_option linter.unusedVariables false
open Go.RowKit

end Go.Proofs.YtejlgcnhfomadabDoor

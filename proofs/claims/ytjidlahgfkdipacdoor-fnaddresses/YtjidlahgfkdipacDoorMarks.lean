/- Walks of the law's marks: markIntS writes k, k+1, .. into a slice that may be written; heldIntS finds them there. -/
import Derived.Test.YtjidlahgfkdipacDoorChecked
import Derived.Test.YtjidlahgfkdipacDoorBase
namespace Go.Proofs.YtjidlahgfkdipacDoor
set_option linter.unusedVariables false
open Go.RowKit

end Go.Proofs.YtjidlahgfkdipacDoor

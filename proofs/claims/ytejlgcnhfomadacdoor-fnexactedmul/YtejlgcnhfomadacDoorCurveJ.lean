/- Walks: curves of the program: has. -/
import Derived.Test.YtejlgcnhfomadacDoorCurveI
namespace Go.Proofs.YtejlgcnhfomadacDoor
set_option linter.unusedVariables false
open Go.RowKit

/-- Behind a region whose callees lay blocks: what was there has not turned. -/
theorem below_re {B : Nat} {a w : World} (h : Below B a w) (hB : B ≤ w.heap.size) (d : Nat) (os : Array Obj) : Below B a (Sort.grow (redrawn w d) os) := h.trans ((below_regrown w d os).mono hB)

end Go.Proofs.YtejlgcnhfomadacDoor

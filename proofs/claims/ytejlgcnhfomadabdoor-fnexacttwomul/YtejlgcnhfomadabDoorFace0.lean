/- Walks: the face of the program: what is panicked with, held against another. -/
import Derived.Test.YtejlgcnhfomadabDoorFace
import Derived.Test.YtejlgcnhfomadabDoorBlk
import Derived.Laws.EntriesVeiled
namespace Go.Proofs.YtejlgcnhfomadabDoor
set_option linter.unusedVariables false
open Go.RowKit

theorem ne_nil_nr (w : World) : (binOp .neq 20 (.iface 95 (.agg #[])) .nilIface).run Tryd.prog w = .ok (.bool true) w := by kernel_rfl

theorem ne_nr_nr (w : World) : (binOp .neq 20 (.iface 95 (.agg #[])) (.iface 95 (.agg #[]))).run Tryd.prog w = .ok (.bool false) w := by kernel_rfl

end Go.Proofs.YtejlgcnhfomadabDoor

/- Walks: the face of the program: what is panicked with, held against another. -/
import Derived.Test.YtejlgcnhfomadacDoorFace
import Derived.Test.YtejlgcnhfomadacDoorBlk
import Derived.Laws.EntriesVeiled
namespace Go.Proofs.YtejlgcnhfomadacDoor
set_option linter.unusedVariables false
open Go.RowKit

theorem ne_nil_nr (w : World) : (binOp .neq 20 (.iface 69 (.agg #[])) .nilIface).run Tryd.prog w = .ok (.bool true) w := by kernel_rfl

theorem ne_nr_nr (w : World) : (binOp .neq 20 (.iface 69 (.agg #[])) (.iface 69 (.agg #[]))).run Tryd.prog w = .ok (.bool false) w := by kernel_rfl

end Go.Proofs.YtejlgcnhfomadacDoor

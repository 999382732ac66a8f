/- Walks: the face of the program: what is panicked with, held against another. -/
import Derived.Test.YtcfpmillbdkpcaaDoorFace
import Derived.Test.YtcfpmillbdkpcaaDoorBlk
import Derived.Laws.EntriesVeiled
namespace Go.Proofs.YtcfpmillbdkpcaaDoor
set_option linter.unusedVariables false
open Go.RowKit

theorem ne_nil_nr (w : World) : (binOp .neq 20 (.iface 121 (.agg #[])) .nilIface).run Tryd.prog w = .ok (.bool true) w := by kernel_rfl

theorem ne_nr_nr (w : World) : (binOp .neq 20 (.iface 121 (.agg #[])) (.iface 121 (.agg #[]))).run Tryd.prog w = .ok (.bool false) w := by kernel_rfl

end Go.Proofs.YtcfpmillbdkpcaaDoor
